/- Whether a server is right. -/
import Derived.Test.YtkjpbjgepnbibaaWaI
namespace Go.Proofs.Ytkjpbjgepnbibaa
open Go.RowKit
open Ev (SV vi Bx Sg Kg)
set_option maxRecDepth 100000

def faB (s : Srv) : Nat → List Fx → Bool
  | _, [] => true
  | i, f :: r => (decide (f.id = (i : Int)) && asB f (h4 (i : Int) s.hs.l) (decide ((i : Int) ∈ s.q.l))) && faB s (i + 1) r
/-- A server is right. -/
def rightB (s : Srv) : Bool := okQ s.fs.l.length [] s.q.l && (enB s && (fuB s && faB s 0 s.fs.l))
theorem heL_row (n : Nat) (l : List T3) (i : Nat) (hi : i < n) : ((heL n l).drop (i * 4)).take 4 = v4 (h4 (i : Int) l) := by
  apply List.ext_getElem?
  intro j
  rcases Nat.lt_or_ge j 4 with hj | hj
  · rw [List.getElem?_take_of_lt hj, List.getElem?_drop]
    have h := heL_at n l (i : Int) j hj (by omega) (by omega)
    rw [show ((i : Int)).toNat * 4 + j * 1 = i * 4 + j by omega] at h
    rw [h]
    match j, hj with
    | 0, _ => rfl
    | 1, _ => rfl
    | 2, _ => rfl
    | 3, _ => rfl
  · rw [List.getElem?_eq_none (by rw [List.length_take]; omega), List.getElem?_eq_none (by show 4 ≤ j; exact hj)]
theorem boL_row (n : Nat) (p : List Int) (i : Nat) (hi : i < n) : (boL n p)[i * 1]? = some (.bool (decide ((i : Int) ∈ p))) := boL_at n p (i : Int) (by omega) (by omega)
def kRight : Kg Srv Unit := ⟨8, fun s => [.agg (srL s).toArray], fun s => [mfH s, mfQ s, mfF s], fun s => Fit s, fun s _ => .bool (rightB s), fun _ _ => [], fun _ _ => True⟩
def riF (s : Srv) (i : Nat) : Ev.SS := ⟨[(1, .ptr 0 0), (3, .row 1 s.fs.l.length), (5, .row 2 s.fs.l.length), (30, .val s.fs.v), (31, vi (s.fs.l.length : Int)), (32, vi (i : Int))], [.cells ((srL s).map .val), .row 4 1 s.fs.l.length (boL s.fs.l.length s.q.l), .row 28 4 s.fs.l.length (heL s.fs.l.length s.hs.l)], [mfF s]⟩
theorem kRight_ok : Ev.Spec Try.prog kRight.sg := by
  refine Ev.spec 55 hMz Try.func8 (by kernel_rfl) fun s hx bs w hl => ?_
  have hx : Fit s := hx
  have hf := hx.f
  have he : ∀ r, rightB s = r → kRight.sg.out s () = [] ∧ kRight.sg.res s () = .val (.bool r) ∧ kRight.sg.post s () = [] := fun r e => by subst e; exact ⟨rfl, rfl, rfl⟩
  refine Ev.callC quS_ok s [] [1] hMz (by kernel_rfl) hx fun y hy => ?_
  have hy : y = okQ s.fs.l.length [] s.q.l := hy
  cases y
  · exact Ev.retE () [] [] (he false (by clear he; unfold rightB; simp_all)) (by kernel_rfl) hl trivial
  · refine Ev.callC kEnough_ok s [] [0] hMz (by kernel_rfl) hx fun _ _ => ?_
    refine Ev.split (!enB s) hMz (by kernel_rfl) (fun h2 => ?_) (fun h2 => ?_)
    · exact Ev.retE () [] [] (he false (by clear he; unfold rightB; simp_all)) (by kernel_rfl) hl trivial
    · refine Ev.callC kFull_ok s [] [0] hMz (by kernel_rfl) hx fun _ _ => ?_
      refine Ev.split (!fuB s) hMz (by kernel_rfl) (fun h3 => ?_) (fun h3 => ?_)
      · exact Ev.retE () [] [] (he false (by clear he; unfold rightB; simp_all)) (by kernel_rfl) hl trivial
      · refine Ev.callC heS_ok s [] [0] hMz (by kernel_rfl) hx fun _ _ => ?_
        have hr : rightB s = faB s 0 (s.fs.l.drop 0) := by unfold rightB; simp_all
        refine Ev.loopS (fun i => i ≤ s.fs.l.length ∧ rightB s = faB s i (s.fs.l.drop i)) (fun i => s.fs.l.length - i) (riF s) 0 [0, 1, 2] [2] hMz ⟨Nat.zero_le _, hr⟩ (by kernel_rfl) hl fun i hi I hI => ?_
        obtain ⟨hi, hn⟩ := hi
        refine Ev.split (decide ((i : Int) < (s.fs.l.length : Int))) hMz (by kernel_rfl) (fun hs => ?_) (fun hs => ?_)
        · have hs := of_decide_eq_true hs
          have hi' : i < s.fs.l.length := by omega
          rw [List.drop_eq_getElem_cons hi', faB] at hn
          refine Ev.learn (p := ∃ b off, s.fs.o = some ⟨b, off, none⟩) 0 (mfF s) (by kernel_rfl) (fun w h => rows_o h hi') fun ⟨b, off, ho⟩ => ?_
          refine Ev.idx (y := (i : Int)) (ao := s.fs.o) (m := s.fs.l.length) (m' := s.fs.l.length) (cc := s.fs.c) 35 i b off 16 hMz (by kernel_rfl) rfl ho rfl hi' ?_
          refine Ev.ldR (b := b) (off := off + i * 16) (k := 16) 36 s.fs.l[i].l hMz (by kernel_rfl) rfl (fun w F => rows_at (Ev.fct F 0 (mfF s) (by kernel_rfl)) hi' ho) ?_
          generalize s.fs.l[i] = f at hn ⊢
          obtain ⟨id, ph, po, a0, a1, a2, a3, st, b1, b2, b3, p0, p1, p2, wt, fa⟩ := f
          refine Ev.split (decide ¬id = ↑i) hMz (by kernel_rfl) (fun h5 => ?_) (fun h5 => ?_)
          · exact Ev.retE () [] [] (he false (by clear hI he; rw [hn]; simp_all)) (by kernel_rfl) hl trivial
          · refine Ev.idxR (k := 2) (y := (i : Int)) 8 i s.fs.l.length 4 hMz (by kernel_rfl) rfl hi' ?_
            refine Ev.idxR (k := 1) (y := (i : Int)) 12 i s.fs.l.length 1 hMz (by kernel_rfl) rfl hi' ?_
            refine Ev.fork2 9 13 hMz (by kernel_rfl) (by kernel_rfl) (by kernel_rfl) ?_ ?_
            · refine Ev.ldW (q := 5) (k := 2) (off := i * 4) (l := heL s.fs.l.length s.hs.l) (.agg (v4 (h4 (i : Int) s.hs.l)).toArray) hMz (by kernel_rfl) (.inr ⟨v4 (h4 (i : Int) s.hs.l), rfl, rfl, heL_row _ _ _ hi', by rw [heL_len]; omega⟩) ?_
              refine Ev.ldW (q := 0) (k := 1) (off := i * 1) (l := boL s.fs.l.length s.q.l) (.bool (decide ((i : Int) ∈ s.q.l))) hMz (by kernel_rfl) (.inl ⟨rfl, boL_row _ _ _ hi'⟩) ?_
              refine Ev.callC kAskR_ok (⟨id, ph, po, a0, a1, a2, a3, st, b1, b2, b3, p0, p1, p2, wt, fa⟩, h4 (i : Int) s.hs.l, decide ((i : Int) ∈ s.q.l)) [] [] hMz (by kernel_rfl) trivial fun _ _ => ?_
              refine Ev.split (!asB ⟨id, ph, po, a0, a1, a2, a3, st, b1, b2, b3, p0, p1, p2, wt, fa⟩ (h4 (i : Int) s.hs.l) (decide ((i : Int) ∈ s.q.l))) hMz (by kernel_rfl) (fun h7 => ?_) (fun h7 => ?_)
              · exact Ev.retE () [] [] (he false (by clear hI he; rw [hn]; simp_all)) (by kernel_rfl) hl trivial
              · refine Ev.reW 32 ((i + 1 : Nat) : Int) hMz (by kernel_rfl) (by omega) (by omega) ?_
                exact Ev.againS hI (i + 1) [0, 1, 2] [0] ⟨hi', by clear hI he; rw [hn]; simp_all⟩ (by show s.fs.l.length - (i + 1) < s.fs.l.length - i; omega) (by kernel_rfl) (by kernel_rfl) hl
            · refine Ev.ldW (q := 0) (k := 1) (off := i * 1) (l := boL s.fs.l.length s.q.l) (.bool (decide ((i : Int) ∈ s.q.l))) hMz (by kernel_rfl) (.inl ⟨rfl, boL_row _ _ _ hi'⟩) ?_
              refine Ev.ldW (q := 5) (k := 2) (off := i * 4) (l := heL s.fs.l.length s.hs.l) (.agg (v4 (h4 (i : Int) s.hs.l)).toArray) hMz (by kernel_rfl) (.inr ⟨v4 (h4 (i : Int) s.hs.l), rfl, rfl, heL_row _ _ _ hi', by rw [heL_len]; omega⟩) ?_
              refine Ev.callC kAskR_ok (⟨id, ph, po, a0, a1, a2, a3, st, b1, b2, b3, p0, p1, p2, wt, fa⟩, h4 (i : Int) s.hs.l, decide ((i : Int) ∈ s.q.l)) [] [] hMz (by kernel_rfl) trivial fun _ _ => ?_
              refine Ev.split (!asB ⟨id, ph, po, a0, a1, a2, a3, st, b1, b2, b3, p0, p1, p2, wt, fa⟩ (h4 (i : Int) s.hs.l) (decide ((i : Int) ∈ s.q.l))) hMz (by kernel_rfl) (fun h7 => ?_) (fun h7 => ?_)
              · exact Ev.retE () [] [] (he false (by clear hI he; rw [hn]; simp_all)) (by kernel_rfl) hl trivial
              · refine Ev.reW 32 ((i + 1 : Nat) : Int) hMz (by kernel_rfl) (by omega) (by omega) ?_
                exact Ev.againS hI (i + 1) [0, 1, 2] [0] ⟨hi', by clear hI he; rw [hn]; simp_all⟩ (by show s.fs.l.length - (i + 1) < s.fs.l.length - i; omega) (by kernel_rfl) (by kernel_rfl) hl
        · have hs := of_decide_eq_false hs
          have hi' : i = s.fs.l.length := by omega
          exact Ev.retE () [] [] (he true (by rw [hn, hi', List.drop_length]; rfl)) (by kernel_rfl) hl trivial
end Go.Proofs.Ytkjpbjgepnbibaa
