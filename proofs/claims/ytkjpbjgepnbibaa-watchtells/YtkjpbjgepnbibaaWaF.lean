/- Whether calls are in order. -/
import Derived.Test.YtkjpbjgepnbibaaWaE
namespace Go.Proofs.Ytkjpbjgepnbibaa
open Go.RowKit
open Ev (SV vi Bx Sg Kg)
set_option maxRecDepth 100000

def kOnion : Kg (Ls T3) Unit := ⟨10, fun s => [s.v], fun s => [mfL T3.l 3 s], fun s => s.l.length ≤ 5864062014634, fun s _ => .bool (onB ⟨0, -1, 1⟩ s.l), fun _ _ => [], fun _ _ => True⟩
def kOnionF (s : Ls T3) (y : Nat × T3) : Ev.SS := ⟨[(3, .ptr 0 0), (7, .val s.v), (8, vi (s.l.length : Int)), (9, vi (y.1 : Int))], [.cells (y.2.l.map .val)], [mfL T3.l 3 s]⟩
theorem kOnion_ok : Ev.Spec Try.prog kOnion.sg := by
  refine Ev.spec 20 hMz Try.func10 (by kernel_rfl) fun s hx bs w hl => ?_
  have hh : s.l.length ≤ 5864062014634 := hx
  have he : ∀ r, onB ⟨0, -1, 1⟩ s.l = r → kOnion.sg.out s () = [] ∧ kOnion.sg.res s () = .val (.bool r) ∧ kOnion.sg.post s () = [] := fun r e => by subst e; exact ⟨rfl, rfl, rfl⟩
  refine Ev.loopS (fun y => y.1 ≤ s.l.length ∧ onB ⟨0, -1, 1⟩ s.l = onB y.2 (s.l.drop y.1)) (fun y => s.l.length - y.1) (kOnionF s) (0, ⟨0, -1, 1⟩) [0] [0] hMz ⟨Nat.zero_le _, rfl⟩ (by kernel_rfl) hl fun ⟨i, ⟨aa, ab, ac⟩⟩ hi I hI => ?_
  obtain ⟨hi, hn⟩ : i ≤ s.l.length ∧ onB ⟨0, -1, 1⟩ s.l = onB ⟨aa, ab, ac⟩ (s.l.drop i) := hi
  refine Ev.split (decide ((i : Int) < (s.l.length : Int))) hMz (by kernel_rfl) (fun hs => ?_) (fun hs => ?_)
  · have hs := of_decide_eq_true hs
    have hi' : i < s.l.length := by omega
    rw [List.drop_eq_getElem_cons hi', onB] at hn
    refine Ev.learn (p := ∃ b off, s.o = some ⟨b, off, none⟩) 0 (mfL T3.l 3 s) (by kernel_rfl) (fun w h => rows_o h hi') fun ⟨b, off, ho⟩ => ?_
    refine Ev.idx (y := (i : Int)) (ao := s.o) (m := s.l.length) (m' := s.l.length) (cc := s.c) 11 i b off 3 hMz (by kernel_rfl) rfl ho rfl hi' ?_
    refine Ev.ldR (b := b) (off := off + i * 3) (k := 3) 12 s.l[i].l hMz (by kernel_rfl) rfl (fun w F => rows_at (Ev.fct F 0 (mfL T3.l 3 s) (by kernel_rfl)) hi' ho) ?_
    generalize s.l[i] = x at hn ⊢
    obtain ⟨ma, mb, mc⟩ := x
    have again : ∀ a', onB ⟨0, -1, 1⟩ s.l = onB a' (s.l.drop (i + 1)) → (i + 1 ≤ s.l.length ∧ onB ⟨0, -1, 1⟩ s.l = onB a' (s.l.drop (i + 1))) ∧ s.l.length - (i + 1) < s.l.length - i := fun a' h => ⟨⟨hi', h⟩, by omega⟩
    refine Ev.callC kFollows_ok (⟨aa, ab, ac⟩, ⟨ma, mb, mc⟩) [] [] hMz (by kernel_rfl) trivial fun _ _ => ?_
    refine Ev.split (!folB { a := aa, b := ab, c := ac } { a := ma, b := mb, c := mc }) hMz (by kernel_rfl) (fun h1 => ?_) (fun h1 => ?_)
    · exact Ev.retE () [] [] (he false (by clear hI he; rw [hn]; simp_all)) (by kernel_rfl) hl trivial
    · refine Ev.callC kCounted_ok ⟨ma, mb, mc⟩ [] [] hMz (by kernel_rfl) trivial fun _ _ => ?_
      refine Ev.reW 9 ((i + 1 : Nat) : Int) hMz (by kernel_rfl) (by omega) (by omega) ?_
      exact Ev.againS hI (i + 1, cntM ⟨ma, mb, mc⟩) [0] [0] (again _ (by simp_all)).1 (again (cntM ⟨ma, mb, mc⟩) (by simp_all)).2 (by kernel_rfl) (by kernel_rfl) hl
  · have hs := of_decide_eq_false hs
    have hi' : i = s.l.length := by omega
    exact Ev.retE () [] [] (he true (by rw [hn, hi', List.drop_length]; rfl)) (by kernel_rfl) hl trivial
def kOnionR : Kg (Ls T3) Unit := ⟨11, fun s => [s.v], fun s => [mfL T3.l 3 s], fun s => s.l.length ≤ 5864062014634, fun s _ => .bool (onB ⟨0, -1, 1⟩ s.l), fun _ _ => [], fun _ _ => True⟩
def kOnionRF (s : Ls T3) (y : Nat × T3) : Ev.SS := ⟨[(3, .ptr 0 0), (8, .val s.v), (9, vi (s.l.length : Int)), (10, vi (y.1 : Int))], [.cells (y.2.l.map .val)], [mfL T3.l 3 s]⟩
set_option maxHeartbeats 4000000 in
theorem kOnionR_ok : Ev.Spec Try.prog kOnionR.sg := by
  refine Ev.spec 93 hMz Try.func11 (by kernel_rfl) fun s hx bs w hl => ?_
  have hh : s.l.length ≤ 5864062014634 := hx
  have he : ∀ r, onB ⟨0, -1, 1⟩ s.l = r → kOnionR.sg.out s () = [] ∧ kOnionR.sg.res s () = .val (.bool r) ∧ kOnionR.sg.post s () = [] := fun r e => by subst e; exact ⟨rfl, rfl, rfl⟩
  refine Ev.loopS (fun y => y.1 ≤ s.l.length ∧ onB ⟨0, -1, 1⟩ s.l = onB y.2 (s.l.drop y.1)) (fun y => s.l.length - y.1) (kOnionRF s) (0, ⟨0, -1, 1⟩) [0] [0] hMz ⟨Nat.zero_le _, rfl⟩ (by kernel_rfl) hl fun ⟨i, ⟨aa, ab, ac⟩⟩ hi I hI => ?_
  obtain ⟨hi, hn⟩ : i ≤ s.l.length ∧ onB ⟨0, -1, 1⟩ s.l = onB ⟨aa, ab, ac⟩ (s.l.drop i) := hi
  refine Ev.split (decide ((i : Int) < (s.l.length : Int))) hMz (by kernel_rfl) (fun hs => ?_) (fun hs => ?_)
  · have hs := of_decide_eq_true hs
    have hi' : i < s.l.length := by omega
    rw [List.drop_eq_getElem_cons hi', onB] at hn
    refine Ev.learn (p := ∃ b off, s.o = some ⟨b, off, none⟩) 0 (mfL T3.l 3 s) (by kernel_rfl) (fun w h => rows_o h hi') fun ⟨b, off, ho⟩ => ?_
    refine Ev.idx (y := (i : Int)) (ao := s.o) (m := s.l.length) (m' := s.l.length) (cc := s.c) 12 i b off 3 hMz (by kernel_rfl) rfl ho rfl hi' ?_
    refine Ev.ldR (b := b) (off := off + i * 3) (k := 3) 13 s.l[i].l hMz (by kernel_rfl) rfl (fun w F => rows_at (Ev.fct F 0 (mfL T3.l 3 s) (by kernel_rfl)) hi' ho) ?_
    generalize s.l[i] = x at hn ⊢
    obtain ⟨ma, mb, mc⟩ := x
    have again : ∀ a', onB ⟨0, -1, 1⟩ s.l = onB a' (s.l.drop (i + 1)) → (i + 1 ≤ s.l.length ∧ onB ⟨0, -1, 1⟩ s.l = onB a' (s.l.drop (i + 1))) ∧ s.l.length - (i + 1) < s.l.length - i := fun a' h => ⟨⟨hi', h⟩, by omega⟩
    refine Ev.split (decide (mc = (5 : Int))) hMz (by kernel_rfl) (fun h1 => ?_) (fun h1 => ?_)
    · refine Ev.split (decide ¬ac = (1 : Int)) hMz (by kernel_rfl) (fun h2 => ?_) (fun h2 => ?_)
      · refine Ev.split (decide ¬ac = (2 : Int)) hMz (by kernel_rfl) (fun h3 => ?_) (fun h3 => ?_)
        · exact Ev.retE () [] [] (he false (by clear hI he again hx; rw [hn]; simp_all [folB, bndI] <;> intro h <;> (repeat' split at h) <;> omega)) (by kernel_rfl) hl trivial
        · refine Ev.reW 10 ((i + 1 : Nat) : Int) hMz (by kernel_rfl) (by omega) (by omega) ?_
          have ho : onB ⟨0, -1, 1⟩ s.l = onB ⟨0, 6, 2⟩ (s.l.drop (i + 1)) := by clear hI he again hx; rw [hn, onB_id 0 ma 6 2]; simp_all [folB, bndI, cntM] <;> omega
          exact Ev.againS hI (i + 1, ⟨0, 6, 2⟩) [0] [0] (again _ ho).1 (again _ ho).2 (by kernel_rfl) (by kernel_rfl) hl
      · refine Ev.reW 10 ((i + 1 : Nat) : Int) hMz (by kernel_rfl) (by omega) (by omega) ?_
        have ho : onB ⟨0, -1, 1⟩ s.l = onB ⟨0, 6, 2⟩ (s.l.drop (i + 1)) := by clear hI he again hx; rw [hn, onB_id 0 ma 6 2]; simp_all [folB, bndI, cntM] <;> omega
        exact Ev.againS hI (i + 1, ⟨0, 6, 2⟩) [0] [0] (again _ ho).1 (again _ ho).2 (by kernel_rfl) (by kernel_rfl) hl
    · refine Ev.split (decide (mc = (2 : Int))) hMz (by kernel_rfl) (fun h2 => ?_) (fun h2 => ?_)
      · refine Ev.split (decide (mc < ac)) hMz (by kernel_rfl) (fun h3 => ?_) (fun h3 => ?_)
        · refine Ev.split (decide ¬ac = (2 : Int)) hMz (by kernel_rfl) (fun h4 => ?_) (fun h4 => ?_)
          · exact Ev.retE () [] [] (he false (by clear hI he again hx; rw [hn]; simp_all [folB, bndI] <;> intro h <;> (repeat' split at h) <;> omega)) (by kernel_rfl) hl trivial
          · refine Ev.split (decide ¬mc = (1 : Int)) hMz (by kernel_rfl) (fun h5 => ?_) (fun h5 => ?_)
            · exact Ev.retE () [] [] (he false (by clear hI he again hx; rw [hn]; simp_all [folB, bndI] <;> intro h <;> (repeat' split at h) <;> omega)) (by kernel_rfl) hl trivial
            · refine Ev.split (decide (mc = (1 : Int))) hMz (by kernel_rfl) (fun h6 => ?_) (fun h6 => ?_)
              · refine Ev.split (decide (mb ≤ ab)) hMz (by kernel_rfl) (fun h7 => ?_) (fun h7 => ?_)
                · exact Ev.retE () [] [] (he false (by clear hI he again hx; rw [hn]; simp_all [folB, bndI] <;> intro h <;> (repeat' split at h) <;> omega)) (by kernel_rfl) hl trivial
                · refine Ev.split (decide (mc = ac)) hMz (by kernel_rfl) (fun h8 => ?_) (fun h8 => ?_)
                  · refine Ev.split (decide (ab ≤ mb)) hMz (by kernel_rfl) (fun h9 => ?_) (fun h9 => ?_)
                    · exact Ev.retE () [] [] (he false (by clear hI he again hx; rw [hn]; simp_all [folB, bndI] <;> intro h <;> (repeat' split at h) <;> omega)) (by kernel_rfl) hl trivial
                    · refine Ev.split (decide ¬mc = ac) hMz (by kernel_rfl) (fun h10 => ?_) (fun h10 => ?_)
                      · refine Ev.split (decide ((6 : Int) ≤ mb)) hMz (by kernel_rfl) (fun h11 => ?_) (fun h11 => ?_)
                        · exact Ev.retE () [] [] (he false (by clear hI he again hx; rw [hn]; simp_all [folB, bndI] <;> intro h <;> (repeat' split at h) <;> omega)) (by kernel_rfl) hl trivial
                        · refine Ev.reW 10 ((i + 1 : Nat) : Int) hMz (by kernel_rfl) (by omega) (by omega) ?_
                          have ho : onB ⟨0, -1, 1⟩ s.l = onB ⟨ma, mb, mc⟩ (s.l.drop (i + 1)) := by clear hI he again hx; rw [hn]; simp_all [folB, bndI, cntM] <;> omega
                          exact Ev.againS hI (i + 1, ⟨ma, mb, mc⟩) [0] [0] (again _ ho).1 (again _ ho).2 (by kernel_rfl) (by kernel_rfl) hl
                      · refine Ev.reW 10 ((i + 1 : Nat) : Int) hMz (by kernel_rfl) (by omega) (by omega) ?_
                        have ho : onB ⟨0, -1, 1⟩ s.l = onB ⟨ma, mb, mc⟩ (s.l.drop (i + 1)) := by clear hI he again hx; rw [hn]; simp_all [folB, bndI, cntM] <;> omega
                        exact Ev.againS hI (i + 1, ⟨ma, mb, mc⟩) [0] [0] (again _ ho).1 (again _ ho).2 (by kernel_rfl) (by kernel_rfl) hl
                  · refine Ev.split (decide ¬mc = ac) hMz (by kernel_rfl) (fun h9 => ?_) (fun h9 => ?_)
                    · refine Ev.split (decide ((6 : Int) ≤ mb)) hMz (by kernel_rfl) (fun h10 => ?_) (fun h10 => ?_)
                      · exact Ev.retE () [] [] (he false (by clear hI he again hx; rw [hn]; simp_all [folB, bndI] <;> intro h <;> (repeat' split at h) <;> omega)) (by kernel_rfl) hl trivial
                      · refine Ev.reW 10 ((i + 1 : Nat) : Int) hMz (by kernel_rfl) (by omega) (by omega) ?_
                        have ho : onB ⟨0, -1, 1⟩ s.l = onB ⟨ma, mb, mc⟩ (s.l.drop (i + 1)) := by clear hI he again hx; rw [hn]; simp_all [folB, bndI, cntM] <;> omega
                        exact Ev.againS hI (i + 1, ⟨ma, mb, mc⟩) [0] [0] (again _ ho).1 (again _ ho).2 (by kernel_rfl) (by kernel_rfl) hl
                    · refine Ev.reW 10 ((i + 1 : Nat) : Int) hMz (by kernel_rfl) (by omega) (by omega) ?_
                      have ho : onB ⟨0, -1, 1⟩ s.l = onB ⟨ma, mb, mc⟩ (s.l.drop (i + 1)) := by clear hI he again hx; rw [hn]; simp_all [folB, bndI, cntM] <;> omega
                      exact Ev.againS hI (i + 1, ⟨ma, mb, mc⟩) [0] [0] (again _ ho).1 (again _ ho).2 (by kernel_rfl) (by kernel_rfl) hl
              · refine Ev.split (decide (mc = ac)) hMz (by kernel_rfl) (fun h7 => ?_) (fun h7 => ?_)
                · refine Ev.split (decide (ab ≤ mb)) hMz (by kernel_rfl) (fun h8 => ?_) (fun h8 => ?_)
                  · exact Ev.retE () [] [] (he false (by clear hI he again hx; rw [hn]; simp_all [folB, bndI] <;> intro h <;> (repeat' split at h) <;> omega)) (by kernel_rfl) hl trivial
                  · refine Ev.split (decide ¬mc = ac) hMz (by kernel_rfl) (fun h9 => ?_) (fun h9 => ?_)
                    · refine Ev.split (decide ((6 : Int) ≤ mb)) hMz (by kernel_rfl) (fun h10 => ?_) (fun h10 => ?_)
                      · exact Ev.retE () [] [] (he false (by clear hI he again hx; rw [hn]; simp_all [folB, bndI] <;> intro h <;> (repeat' split at h) <;> omega)) (by kernel_rfl) hl trivial
                      · refine Ev.reW 10 ((i + 1 : Nat) : Int) hMz (by kernel_rfl) (by omega) (by omega) ?_
                        have ho : onB ⟨0, -1, 1⟩ s.l = onB ⟨ma, mb, mc⟩ (s.l.drop (i + 1)) := by clear hI he again hx; rw [hn]; simp_all [folB, bndI, cntM] <;> omega
                        exact Ev.againS hI (i + 1, ⟨ma, mb, mc⟩) [0] [0] (again _ ho).1 (again _ ho).2 (by kernel_rfl) (by kernel_rfl) hl
                    · refine Ev.reW 10 ((i + 1 : Nat) : Int) hMz (by kernel_rfl) (by omega) (by omega) ?_
                      have ho : onB ⟨0, -1, 1⟩ s.l = onB ⟨ma, mb, mc⟩ (s.l.drop (i + 1)) := by clear hI he again hx; rw [hn]; simp_all [folB, bndI, cntM] <;> omega
                      exact Ev.againS hI (i + 1, ⟨ma, mb, mc⟩) [0] [0] (again _ ho).1 (again _ ho).2 (by kernel_rfl) (by kernel_rfl) hl
                · refine Ev.split (decide ¬mc = ac) hMz (by kernel_rfl) (fun h8 => ?_) (fun h8 => ?_)
                  · refine Ev.split (decide ((6 : Int) ≤ mb)) hMz (by kernel_rfl) (fun h9 => ?_) (fun h9 => ?_)
                    · exact Ev.retE () [] [] (he false (by clear hI he again hx; rw [hn]; simp_all [folB, bndI] <;> intro h <;> (repeat' split at h) <;> omega)) (by kernel_rfl) hl trivial
                    · refine Ev.reW 10 ((i + 1 : Nat) : Int) hMz (by kernel_rfl) (by omega) (by omega) ?_
                      have ho : onB ⟨0, -1, 1⟩ s.l = onB ⟨ma, mb, mc⟩ (s.l.drop (i + 1)) := by clear hI he again hx; rw [hn]; simp_all [folB, bndI, cntM] <;> omega
                      exact Ev.againS hI (i + 1, ⟨ma, mb, mc⟩) [0] [0] (again _ ho).1 (again _ ho).2 (by kernel_rfl) (by kernel_rfl) hl
                  · refine Ev.reW 10 ((i + 1 : Nat) : Int) hMz (by kernel_rfl) (by omega) (by omega) ?_
                    have ho : onB ⟨0, -1, 1⟩ s.l = onB ⟨ma, mb, mc⟩ (s.l.drop (i + 1)) := by clear hI he again hx; rw [hn]; simp_all [folB, bndI, cntM] <;> omega
                    exact Ev.againS hI (i + 1, ⟨ma, mb, mc⟩) [0] [0] (again _ ho).1 (again _ ho).2 (by kernel_rfl) (by kernel_rfl) hl
        · refine Ev.split (decide (mc = (1 : Int))) hMz (by kernel_rfl) (fun h4 => ?_) (fun h4 => ?_)
          · refine Ev.split (decide (mb ≤ ab)) hMz (by kernel_rfl) (fun h5 => ?_) (fun h5 => ?_)
            · exact Ev.retE () [] [] (he false (by clear hI he again hx; rw [hn]; simp_all [folB, bndI] <;> intro h <;> (repeat' split at h) <;> omega)) (by kernel_rfl) hl trivial
            · refine Ev.split (decide (mc = ac)) hMz (by kernel_rfl) (fun h6 => ?_) (fun h6 => ?_)
              · refine Ev.split (decide (ab ≤ mb)) hMz (by kernel_rfl) (fun h7 => ?_) (fun h7 => ?_)
                · exact Ev.retE () [] [] (he false (by clear hI he again hx; rw [hn]; simp_all [folB, bndI] <;> intro h <;> (repeat' split at h) <;> omega)) (by kernel_rfl) hl trivial
                · refine Ev.split (decide ¬mc = ac) hMz (by kernel_rfl) (fun h8 => ?_) (fun h8 => ?_)
                  · refine Ev.split (decide ((6 : Int) ≤ mb)) hMz (by kernel_rfl) (fun h9 => ?_) (fun h9 => ?_)
                    · exact Ev.retE () [] [] (he false (by clear hI he again hx; rw [hn]; simp_all [folB, bndI] <;> intro h <;> (repeat' split at h) <;> omega)) (by kernel_rfl) hl trivial
                    · refine Ev.reW 10 ((i + 1 : Nat) : Int) hMz (by kernel_rfl) (by omega) (by omega) ?_
                      have ho : onB ⟨0, -1, 1⟩ s.l = onB ⟨ma, mb, mc⟩ (s.l.drop (i + 1)) := by clear hI he again hx; rw [hn]; simp_all [folB, bndI, cntM] <;> omega
                      exact Ev.againS hI (i + 1, ⟨ma, mb, mc⟩) [0] [0] (again _ ho).1 (again _ ho).2 (by kernel_rfl) (by kernel_rfl) hl
                  · refine Ev.reW 10 ((i + 1 : Nat) : Int) hMz (by kernel_rfl) (by omega) (by omega) ?_
                    have ho : onB ⟨0, -1, 1⟩ s.l = onB ⟨ma, mb, mc⟩ (s.l.drop (i + 1)) := by clear hI he again hx; rw [hn]; simp_all [folB, bndI, cntM] <;> omega
                    exact Ev.againS hI (i + 1, ⟨ma, mb, mc⟩) [0] [0] (again _ ho).1 (again _ ho).2 (by kernel_rfl) (by kernel_rfl) hl
              · refine Ev.split (decide ¬mc = ac) hMz (by kernel_rfl) (fun h7 => ?_) (fun h7 => ?_)
                · refine Ev.split (decide ((6 : Int) ≤ mb)) hMz (by kernel_rfl) (fun h8 => ?_) (fun h8 => ?_)
                  · exact Ev.retE () [] [] (he false (by clear hI he again hx; rw [hn]; simp_all [folB, bndI] <;> intro h <;> (repeat' split at h) <;> omega)) (by kernel_rfl) hl trivial
                  · refine Ev.reW 10 ((i + 1 : Nat) : Int) hMz (by kernel_rfl) (by omega) (by omega) ?_
                    have ho : onB ⟨0, -1, 1⟩ s.l = onB ⟨ma, mb, mc⟩ (s.l.drop (i + 1)) := by clear hI he again hx; rw [hn]; simp_all [folB, bndI, cntM] <;> omega
                    exact Ev.againS hI (i + 1, ⟨ma, mb, mc⟩) [0] [0] (again _ ho).1 (again _ ho).2 (by kernel_rfl) (by kernel_rfl) hl
                · refine Ev.reW 10 ((i + 1 : Nat) : Int) hMz (by kernel_rfl) (by omega) (by omega) ?_
                  have ho : onB ⟨0, -1, 1⟩ s.l = onB ⟨ma, mb, mc⟩ (s.l.drop (i + 1)) := by clear hI he again hx; rw [hn]; simp_all [folB, bndI, cntM] <;> omega
                  exact Ev.againS hI (i + 1, ⟨ma, mb, mc⟩) [0] [0] (again _ ho).1 (again _ ho).2 (by kernel_rfl) (by kernel_rfl) hl
          · refine Ev.split (decide (mc = ac)) hMz (by kernel_rfl) (fun h5 => ?_) (fun h5 => ?_)
            · refine Ev.split (decide (ab ≤ mb)) hMz (by kernel_rfl) (fun h6 => ?_) (fun h6 => ?_)
              · exact Ev.retE () [] [] (he false (by clear hI he again hx; rw [hn]; simp_all [folB, bndI] <;> intro h <;> (repeat' split at h) <;> omega)) (by kernel_rfl) hl trivial
              · refine Ev.split (decide ¬mc = ac) hMz (by kernel_rfl) (fun h7 => ?_) (fun h7 => ?_)
                · refine Ev.split (decide ((6 : Int) ≤ mb)) hMz (by kernel_rfl) (fun h8 => ?_) (fun h8 => ?_)
                  · exact Ev.retE () [] [] (he false (by clear hI he again hx; rw [hn]; simp_all [folB, bndI] <;> intro h <;> (repeat' split at h) <;> omega)) (by kernel_rfl) hl trivial
                  · refine Ev.reW 10 ((i + 1 : Nat) : Int) hMz (by kernel_rfl) (by omega) (by omega) ?_
                    have ho : onB ⟨0, -1, 1⟩ s.l = onB ⟨ma, mb, mc⟩ (s.l.drop (i + 1)) := by clear hI he again hx; rw [hn]; simp_all [folB, bndI, cntM] <;> omega
                    exact Ev.againS hI (i + 1, ⟨ma, mb, mc⟩) [0] [0] (again _ ho).1 (again _ ho).2 (by kernel_rfl) (by kernel_rfl) hl
                · refine Ev.reW 10 ((i + 1 : Nat) : Int) hMz (by kernel_rfl) (by omega) (by omega) ?_
                  have ho : onB ⟨0, -1, 1⟩ s.l = onB ⟨ma, mb, mc⟩ (s.l.drop (i + 1)) := by clear hI he again hx; rw [hn]; simp_all [folB, bndI, cntM] <;> omega
                  exact Ev.againS hI (i + 1, ⟨ma, mb, mc⟩) [0] [0] (again _ ho).1 (again _ ho).2 (by kernel_rfl) (by kernel_rfl) hl
            · refine Ev.split (decide ¬mc = ac) hMz (by kernel_rfl) (fun h6 => ?_) (fun h6 => ?_)
              · refine Ev.split (decide ((6 : Int) ≤ mb)) hMz (by kernel_rfl) (fun h7 => ?_) (fun h7 => ?_)
                · exact Ev.retE () [] [] (he false (by clear hI he again hx; rw [hn]; simp_all [folB, bndI] <;> intro h <;> (repeat' split at h) <;> omega)) (by kernel_rfl) hl trivial
                · refine Ev.reW 10 ((i + 1 : Nat) : Int) hMz (by kernel_rfl) (by omega) (by omega) ?_
                  have ho : onB ⟨0, -1, 1⟩ s.l = onB ⟨ma, mb, mc⟩ (s.l.drop (i + 1)) := by clear hI he again hx; rw [hn]; simp_all [folB, bndI, cntM] <;> omega
                  exact Ev.againS hI (i + 1, ⟨ma, mb, mc⟩) [0] [0] (again _ ho).1 (again _ ho).2 (by kernel_rfl) (by kernel_rfl) hl
              · refine Ev.reW 10 ((i + 1 : Nat) : Int) hMz (by kernel_rfl) (by omega) (by omega) ?_
                have ho : onB ⟨0, -1, 1⟩ s.l = onB ⟨ma, mb, mc⟩ (s.l.drop (i + 1)) := by clear hI he again hx; rw [hn]; simp_all [folB, bndI, cntM] <;> omega
                exact Ev.againS hI (i + 1, ⟨ma, mb, mc⟩) [0] [0] (again _ ho).1 (again _ ho).2 (by kernel_rfl) (by kernel_rfl) hl
      · refine Ev.split (decide (mc < ac)) hMz (by kernel_rfl) (fun h3 => ?_) (fun h3 => ?_)
        · refine Ev.split (decide ¬ac = (2 : Int)) hMz (by kernel_rfl) (fun h4 => ?_) (fun h4 => ?_)
          · exact Ev.retE () [] [] (he false (by clear hI he again hx; rw [hn]; simp_all [folB, bndI] <;> intro h <;> (repeat' split at h) <;> omega)) (by kernel_rfl) hl trivial
          · refine Ev.split (decide ¬mc = (1 : Int)) hMz (by kernel_rfl) (fun h5 => ?_) (fun h5 => ?_)
            · exact Ev.retE () [] [] (he false (by clear hI he again hx; rw [hn]; simp_all [folB, bndI] <;> intro h <;> (repeat' split at h) <;> omega)) (by kernel_rfl) hl trivial
            · refine Ev.split (decide (mc = (1 : Int))) hMz (by kernel_rfl) (fun h6 => ?_) (fun h6 => ?_)
              · refine Ev.split (decide (mb ≤ ab)) hMz (by kernel_rfl) (fun h7 => ?_) (fun h7 => ?_)
                · exact Ev.retE () [] [] (he false (by clear hI he again hx; rw [hn]; simp_all [folB, bndI] <;> intro h <;> (repeat' split at h) <;> omega)) (by kernel_rfl) hl trivial
                · refine Ev.split (decide (mc = (3 : Int))) hMz (by kernel_rfl) (fun h8 => ?_) (fun h8 => ?_)
                  · refine Ev.split (decide (mc = ac)) hMz (by kernel_rfl) (fun h9 => ?_) (fun h9 => ?_)
                    · refine Ev.split (decide (ab ≤ mb)) hMz (by kernel_rfl) (fun h10 => ?_) (fun h10 => ?_)
                      · exact Ev.retE () [] [] (he false (by clear hI he again hx; rw [hn]; simp_all [folB, bndI] <;> intro h <;> (repeat' split at h) <;> omega)) (by kernel_rfl) hl trivial
                      · refine Ev.yes (decide (mc = (3 : Int))) hMz (by kernel_rfl) h8 ?_
                        refine Ev.split (decide ¬mc = ac) hMz (by kernel_rfl) (fun h11 => ?_) (fun h11 => ?_)
                        · refine Ev.split (decide ((6 : Int) ≤ mb)) hMz (by kernel_rfl) (fun h12 => ?_) (fun h12 => ?_)
                          · exact Ev.retE () [] [] (he false (by clear hI he again hx; rw [hn]; simp_all [folB, bndI] <;> intro h <;> (repeat' split at h) <;> omega)) (by kernel_rfl) hl trivial
                          · refine Ev.reW 10 ((i + 1 : Nat) : Int) hMz (by kernel_rfl) (by omega) (by omega) ?_
                            have ho : onB ⟨0, -1, 1⟩ s.l = onB ⟨ma, mb, mc⟩ (s.l.drop (i + 1)) := by clear hI he again hx; rw [hn]; simp_all [folB, bndI, cntM] <;> omega
                            exact Ev.againS hI (i + 1, ⟨ma, mb, mc⟩) [0] [0] (again _ ho).1 (again _ ho).2 (by kernel_rfl) (by kernel_rfl) hl
                        · refine Ev.reW 10 ((i + 1 : Nat) : Int) hMz (by kernel_rfl) (by omega) (by omega) ?_
                          have ho : onB ⟨0, -1, 1⟩ s.l = onB ⟨ma, mb, mc⟩ (s.l.drop (i + 1)) := by clear hI he again hx; rw [hn]; simp_all [folB, bndI, cntM] <;> omega
                          exact Ev.againS hI (i + 1, ⟨ma, mb, mc⟩) [0] [0] (again _ ho).1 (again _ ho).2 (by kernel_rfl) (by kernel_rfl) hl
                    · refine Ev.yes (decide (mc = (3 : Int))) hMz (by kernel_rfl) h8 ?_
                      refine Ev.split (decide ¬mc = ac) hMz (by kernel_rfl) (fun h10 => ?_) (fun h10 => ?_)
                      · refine Ev.split (decide ((6 : Int) ≤ mb)) hMz (by kernel_rfl) (fun h11 => ?_) (fun h11 => ?_)
                        · exact Ev.retE () [] [] (he false (by clear hI he again hx; rw [hn]; simp_all [folB, bndI] <;> intro h <;> (repeat' split at h) <;> omega)) (by kernel_rfl) hl trivial
                        · refine Ev.reW 10 ((i + 1 : Nat) : Int) hMz (by kernel_rfl) (by omega) (by omega) ?_
                          have ho : onB ⟨0, -1, 1⟩ s.l = onB ⟨ma, mb, mc⟩ (s.l.drop (i + 1)) := by clear hI he again hx; rw [hn]; simp_all [folB, bndI, cntM] <;> omega
                          exact Ev.againS hI (i + 1, ⟨ma, mb, mc⟩) [0] [0] (again _ ho).1 (again _ ho).2 (by kernel_rfl) (by kernel_rfl) hl
                      · refine Ev.reW 10 ((i + 1 : Nat) : Int) hMz (by kernel_rfl) (by omega) (by omega) ?_
                        have ho : onB ⟨0, -1, 1⟩ s.l = onB ⟨ma, mb, mc⟩ (s.l.drop (i + 1)) := by clear hI he again hx; rw [hn]; simp_all [folB, bndI, cntM] <;> omega
                        exact Ev.againS hI (i + 1, ⟨ma, mb, mc⟩) [0] [0] (again _ ho).1 (again _ ho).2 (by kernel_rfl) (by kernel_rfl) hl
                  · refine Ev.no (decide (mc = (3 : Int))) hMz (by kernel_rfl) h8 ?_
                    refine Ev.reW 10 ((i + 1 : Nat) : Int) hMz (by kernel_rfl) (by omega) (by omega) ?_
                    have ho : onB ⟨0, -1, 1⟩ s.l = onB ⟨ma, mb, mc⟩ (s.l.drop (i + 1)) := by clear hI he again hx; rw [hn]; simp_all [folB, bndI, cntM] <;> omega
                    exact Ev.againS hI (i + 1, ⟨ma, mb, mc⟩) [0] [0] (again _ ho).1 (again _ ho).2 (by kernel_rfl) (by kernel_rfl) hl
              · refine Ev.split (decide (mc = (3 : Int))) hMz (by kernel_rfl) (fun h7 => ?_) (fun h7 => ?_)
                · refine Ev.split (decide (mc = ac)) hMz (by kernel_rfl) (fun h8 => ?_) (fun h8 => ?_)
                  · refine Ev.split (decide (ab ≤ mb)) hMz (by kernel_rfl) (fun h9 => ?_) (fun h9 => ?_)
                    · exact Ev.retE () [] [] (he false (by clear hI he again hx; rw [hn]; simp_all [folB, bndI] <;> intro h <;> (repeat' split at h) <;> omega)) (by kernel_rfl) hl trivial
                    · refine Ev.yes (decide (mc = (3 : Int))) hMz (by kernel_rfl) h7 ?_
                      refine Ev.split (decide ¬mc = ac) hMz (by kernel_rfl) (fun h10 => ?_) (fun h10 => ?_)
                      · refine Ev.split (decide ((6 : Int) ≤ mb)) hMz (by kernel_rfl) (fun h11 => ?_) (fun h11 => ?_)
                        · exact Ev.retE () [] [] (he false (by clear hI he again hx; rw [hn]; simp_all [folB, bndI] <;> intro h <;> (repeat' split at h) <;> omega)) (by kernel_rfl) hl trivial
                        · refine Ev.reW 10 ((i + 1 : Nat) : Int) hMz (by kernel_rfl) (by omega) (by omega) ?_
                          have ho : onB ⟨0, -1, 1⟩ s.l = onB ⟨ma, mb, mc⟩ (s.l.drop (i + 1)) := by clear hI he again hx; rw [hn]; simp_all [folB, bndI, cntM] <;> omega
                          exact Ev.againS hI (i + 1, ⟨ma, mb, mc⟩) [0] [0] (again _ ho).1 (again _ ho).2 (by kernel_rfl) (by kernel_rfl) hl
                      · refine Ev.reW 10 ((i + 1 : Nat) : Int) hMz (by kernel_rfl) (by omega) (by omega) ?_
                        have ho : onB ⟨0, -1, 1⟩ s.l = onB ⟨ma, mb, mc⟩ (s.l.drop (i + 1)) := by clear hI he again hx; rw [hn]; simp_all [folB, bndI, cntM] <;> omega
                        exact Ev.againS hI (i + 1, ⟨ma, mb, mc⟩) [0] [0] (again _ ho).1 (again _ ho).2 (by kernel_rfl) (by kernel_rfl) hl
                  · refine Ev.yes (decide (mc = (3 : Int))) hMz (by kernel_rfl) h7 ?_
                    refine Ev.split (decide ¬mc = ac) hMz (by kernel_rfl) (fun h9 => ?_) (fun h9 => ?_)
                    · refine Ev.split (decide ((6 : Int) ≤ mb)) hMz (by kernel_rfl) (fun h10 => ?_) (fun h10 => ?_)
                      · exact Ev.retE () [] [] (he false (by clear hI he again hx; rw [hn]; simp_all [folB, bndI] <;> intro h <;> (repeat' split at h) <;> omega)) (by kernel_rfl) hl trivial
                      · refine Ev.reW 10 ((i + 1 : Nat) : Int) hMz (by kernel_rfl) (by omega) (by omega) ?_
                        have ho : onB ⟨0, -1, 1⟩ s.l = onB ⟨ma, mb, mc⟩ (s.l.drop (i + 1)) := by clear hI he again hx; rw [hn]; simp_all [folB, bndI, cntM] <;> omega
                        exact Ev.againS hI (i + 1, ⟨ma, mb, mc⟩) [0] [0] (again _ ho).1 (again _ ho).2 (by kernel_rfl) (by kernel_rfl) hl
                    · refine Ev.reW 10 ((i + 1 : Nat) : Int) hMz (by kernel_rfl) (by omega) (by omega) ?_
                      have ho : onB ⟨0, -1, 1⟩ s.l = onB ⟨ma, mb, mc⟩ (s.l.drop (i + 1)) := by clear hI he again hx; rw [hn]; simp_all [folB, bndI, cntM] <;> omega
                      exact Ev.againS hI (i + 1, ⟨ma, mb, mc⟩) [0] [0] (again _ ho).1 (again _ ho).2 (by kernel_rfl) (by kernel_rfl) hl
                · refine Ev.no (decide (mc = (3 : Int))) hMz (by kernel_rfl) h7 ?_
                  refine Ev.reW 10 ((i + 1 : Nat) : Int) hMz (by kernel_rfl) (by omega) (by omega) ?_
                  have ho : onB ⟨0, -1, 1⟩ s.l = onB ⟨ma, mb, mc⟩ (s.l.drop (i + 1)) := by clear hI he again hx; rw [hn]; simp_all [folB, bndI, cntM] <;> omega
                  exact Ev.againS hI (i + 1, ⟨ma, mb, mc⟩) [0] [0] (again _ ho).1 (again _ ho).2 (by kernel_rfl) (by kernel_rfl) hl
        · refine Ev.split (decide (mc = (1 : Int))) hMz (by kernel_rfl) (fun h4 => ?_) (fun h4 => ?_)
          · refine Ev.split (decide (mb ≤ ab)) hMz (by kernel_rfl) (fun h5 => ?_) (fun h5 => ?_)
            · exact Ev.retE () [] [] (he false (by clear hI he again hx; rw [hn]; simp_all [folB, bndI] <;> intro h <;> (repeat' split at h) <;> omega)) (by kernel_rfl) hl trivial
            · refine Ev.split (decide (mc = (3 : Int))) hMz (by kernel_rfl) (fun h6 => ?_) (fun h6 => ?_)
              · refine Ev.split (decide (mc = ac)) hMz (by kernel_rfl) (fun h7 => ?_) (fun h7 => ?_)
                · refine Ev.split (decide (ab ≤ mb)) hMz (by kernel_rfl) (fun h8 => ?_) (fun h8 => ?_)
                  · exact Ev.retE () [] [] (he false (by clear hI he again hx; rw [hn]; simp_all [folB, bndI] <;> intro h <;> (repeat' split at h) <;> omega)) (by kernel_rfl) hl trivial
                  · refine Ev.yes (decide (mc = (3 : Int))) hMz (by kernel_rfl) h6 ?_
                    refine Ev.split (decide ¬mc = ac) hMz (by kernel_rfl) (fun h9 => ?_) (fun h9 => ?_)
                    · refine Ev.split (decide ((6 : Int) ≤ mb)) hMz (by kernel_rfl) (fun h10 => ?_) (fun h10 => ?_)
                      · exact Ev.retE () [] [] (he false (by clear hI he again hx; rw [hn]; simp_all [folB, bndI] <;> intro h <;> (repeat' split at h) <;> omega)) (by kernel_rfl) hl trivial
                      · refine Ev.reW 10 ((i + 1 : Nat) : Int) hMz (by kernel_rfl) (by omega) (by omega) ?_
                        have ho : onB ⟨0, -1, 1⟩ s.l = onB ⟨ma, mb, mc⟩ (s.l.drop (i + 1)) := by clear hI he again hx; rw [hn]; simp_all [folB, bndI, cntM] <;> omega
                        exact Ev.againS hI (i + 1, ⟨ma, mb, mc⟩) [0] [0] (again _ ho).1 (again _ ho).2 (by kernel_rfl) (by kernel_rfl) hl
                    · refine Ev.reW 10 ((i + 1 : Nat) : Int) hMz (by kernel_rfl) (by omega) (by omega) ?_
                      have ho : onB ⟨0, -1, 1⟩ s.l = onB ⟨ma, mb, mc⟩ (s.l.drop (i + 1)) := by clear hI he again hx; rw [hn]; simp_all [folB, bndI, cntM] <;> omega
                      exact Ev.againS hI (i + 1, ⟨ma, mb, mc⟩) [0] [0] (again _ ho).1 (again _ ho).2 (by kernel_rfl) (by kernel_rfl) hl
                · refine Ev.yes (decide (mc = (3 : Int))) hMz (by kernel_rfl) h6 ?_
                  refine Ev.split (decide ¬mc = ac) hMz (by kernel_rfl) (fun h8 => ?_) (fun h8 => ?_)
                  · refine Ev.split (decide ((6 : Int) ≤ mb)) hMz (by kernel_rfl) (fun h9 => ?_) (fun h9 => ?_)
                    · exact Ev.retE () [] [] (he false (by clear hI he again hx; rw [hn]; simp_all [folB, bndI] <;> intro h <;> (repeat' split at h) <;> omega)) (by kernel_rfl) hl trivial
                    · refine Ev.reW 10 ((i + 1 : Nat) : Int) hMz (by kernel_rfl) (by omega) (by omega) ?_
                      have ho : onB ⟨0, -1, 1⟩ s.l = onB ⟨ma, mb, mc⟩ (s.l.drop (i + 1)) := by clear hI he again hx; rw [hn]; simp_all [folB, bndI, cntM] <;> omega
                      exact Ev.againS hI (i + 1, ⟨ma, mb, mc⟩) [0] [0] (again _ ho).1 (again _ ho).2 (by kernel_rfl) (by kernel_rfl) hl
                  · refine Ev.reW 10 ((i + 1 : Nat) : Int) hMz (by kernel_rfl) (by omega) (by omega) ?_
                    have ho : onB ⟨0, -1, 1⟩ s.l = onB ⟨ma, mb, mc⟩ (s.l.drop (i + 1)) := by clear hI he again hx; rw [hn]; simp_all [folB, bndI, cntM] <;> omega
                    exact Ev.againS hI (i + 1, ⟨ma, mb, mc⟩) [0] [0] (again _ ho).1 (again _ ho).2 (by kernel_rfl) (by kernel_rfl) hl
              · refine Ev.no (decide (mc = (3 : Int))) hMz (by kernel_rfl) h6 ?_
                refine Ev.reW 10 ((i + 1 : Nat) : Int) hMz (by kernel_rfl) (by omega) (by omega) ?_
                have ho : onB ⟨0, -1, 1⟩ s.l = onB ⟨ma, mb, mc⟩ (s.l.drop (i + 1)) := by clear hI he again hx; rw [hn]; simp_all [folB, bndI, cntM] <;> omega
                exact Ev.againS hI (i + 1, ⟨ma, mb, mc⟩) [0] [0] (again _ ho).1 (again _ ho).2 (by kernel_rfl) (by kernel_rfl) hl
          · refine Ev.split (decide (mc = (3 : Int))) hMz (by kernel_rfl) (fun h5 => ?_) (fun h5 => ?_)
            · refine Ev.split (decide (mc = ac)) hMz (by kernel_rfl) (fun h6 => ?_) (fun h6 => ?_)
              · refine Ev.split (decide (ab ≤ mb)) hMz (by kernel_rfl) (fun h7 => ?_) (fun h7 => ?_)
                · exact Ev.retE () [] [] (he false (by clear hI he again hx; rw [hn]; simp_all [folB, bndI] <;> intro h <;> (repeat' split at h) <;> omega)) (by kernel_rfl) hl trivial
                · refine Ev.yes (decide (mc = (3 : Int))) hMz (by kernel_rfl) h5 ?_
                  refine Ev.split (decide ¬mc = ac) hMz (by kernel_rfl) (fun h8 => ?_) (fun h8 => ?_)
                  · refine Ev.split (decide ((6 : Int) ≤ mb)) hMz (by kernel_rfl) (fun h9 => ?_) (fun h9 => ?_)
                    · exact Ev.retE () [] [] (he false (by clear hI he again hx; rw [hn]; simp_all [folB, bndI] <;> intro h <;> (repeat' split at h) <;> omega)) (by kernel_rfl) hl trivial
                    · refine Ev.reW 10 ((i + 1 : Nat) : Int) hMz (by kernel_rfl) (by omega) (by omega) ?_
                      have ho : onB ⟨0, -1, 1⟩ s.l = onB ⟨ma, mb, mc⟩ (s.l.drop (i + 1)) := by clear hI he again hx; rw [hn]; simp_all [folB, bndI, cntM] <;> omega
                      exact Ev.againS hI (i + 1, ⟨ma, mb, mc⟩) [0] [0] (again _ ho).1 (again _ ho).2 (by kernel_rfl) (by kernel_rfl) hl
                  · refine Ev.reW 10 ((i + 1 : Nat) : Int) hMz (by kernel_rfl) (by omega) (by omega) ?_
                    have ho : onB ⟨0, -1, 1⟩ s.l = onB ⟨ma, mb, mc⟩ (s.l.drop (i + 1)) := by clear hI he again hx; rw [hn]; simp_all [folB, bndI, cntM] <;> omega
                    exact Ev.againS hI (i + 1, ⟨ma, mb, mc⟩) [0] [0] (again _ ho).1 (again _ ho).2 (by kernel_rfl) (by kernel_rfl) hl
              · refine Ev.yes (decide (mc = (3 : Int))) hMz (by kernel_rfl) h5 ?_
                refine Ev.split (decide ¬mc = ac) hMz (by kernel_rfl) (fun h7 => ?_) (fun h7 => ?_)
                · refine Ev.split (decide ((6 : Int) ≤ mb)) hMz (by kernel_rfl) (fun h8 => ?_) (fun h8 => ?_)
                  · exact Ev.retE () [] [] (he false (by clear hI he again hx; rw [hn]; simp_all [folB, bndI] <;> intro h <;> (repeat' split at h) <;> omega)) (by kernel_rfl) hl trivial
                  · refine Ev.reW 10 ((i + 1 : Nat) : Int) hMz (by kernel_rfl) (by omega) (by omega) ?_
                    have ho : onB ⟨0, -1, 1⟩ s.l = onB ⟨ma, mb, mc⟩ (s.l.drop (i + 1)) := by clear hI he again hx; rw [hn]; simp_all [folB, bndI, cntM] <;> omega
                    exact Ev.againS hI (i + 1, ⟨ma, mb, mc⟩) [0] [0] (again _ ho).1 (again _ ho).2 (by kernel_rfl) (by kernel_rfl) hl
                · refine Ev.reW 10 ((i + 1 : Nat) : Int) hMz (by kernel_rfl) (by omega) (by omega) ?_
                  have ho : onB ⟨0, -1, 1⟩ s.l = onB ⟨ma, mb, mc⟩ (s.l.drop (i + 1)) := by clear hI he again hx; rw [hn]; simp_all [folB, bndI, cntM] <;> omega
                  exact Ev.againS hI (i + 1, ⟨ma, mb, mc⟩) [0] [0] (again _ ho).1 (again _ ho).2 (by kernel_rfl) (by kernel_rfl) hl
            · refine Ev.no (decide (mc = (3 : Int))) hMz (by kernel_rfl) h5 ?_
              refine Ev.reW 10 ((i + 1 : Nat) : Int) hMz (by kernel_rfl) (by omega) (by omega) ?_
              have ho : onB ⟨0, -1, 1⟩ s.l = onB ⟨ma, mb, mc⟩ (s.l.drop (i + 1)) := by clear hI he again hx; rw [hn]; simp_all [folB, bndI, cntM] <;> omega
              exact Ev.againS hI (i + 1, ⟨ma, mb, mc⟩) [0] [0] (again _ ho).1 (again _ ho).2 (by kernel_rfl) (by kernel_rfl) hl
  · have hs := of_decide_eq_false hs
    have hi' : i = s.l.length := by omega
    exact Ev.retE () [] [] (he true (by rw [hn, hi', List.drop_length]; rfl)) (by kernel_rfl) hl trivial
end Go.Proofs.Ytkjpbjgepnbibaa
