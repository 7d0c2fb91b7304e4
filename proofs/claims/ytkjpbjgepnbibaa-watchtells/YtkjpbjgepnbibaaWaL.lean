/- Whether a server is right, as the document says it. -/
import Derived.Test.YtkjpbjgepnbibaaWaK
namespace Go.Proofs.Ytkjpbjgepnbibaa
open Go.RowKit Go.Maps
open Ev (SV vi Bx Sg Kg)
set_option maxRecDepth 100000

theorem wf_nat (i : Nat) (h : i ≤ 1099511627776) : (Lit.int .i64 (i : Int)).wf = true := by
  show (decide ((-9223372036854775808 : Int) ≤ (i : Int)) && decide ((i : Int) ≤ (9223372036854775807 : Int))) = true
  simp
  omega
def asN (f : Fx) (a0 a1 a2 a3 : Nat) (q : Bool) : Bool := asB f (a0, a1, a2, a3) q
theorem asB_h4 (f : Fx) (x : Int) (l : List T3) (q : Bool) : asB f (h4 x l) q = asN f (cntH x 0 l) (cntH x 1 l) (cntH x 2 l) (cntH x 3 l) q := rfl
theorem ho3_eq (ph : Int) (a b : Nat) : ho3 ph a b = decide ((b ≤ 1 ∧ (b = 1 → ph = 2)) ∧ (a = 1 ∨ a = 0 ∧ 5 ≤ ph)) := by
  unfold ho3
  rw [Bool.eq_iff_iff]
  simp
theorem asN_eq (f : Fx) (a0 a1 a2 a3 : Nat) (q : Bool) : asN f a0 a1 a2 a3 q = if f.ph < 1 ∨ 6 < f.ph then false else if f.ph = 6 then decide (a0 = 0 ∧ a1 = 0 ∧ a2 = 0 ∧ a3 = 0) && (!f.wt && decide (f.st ≠ 0)) else decide ((a2 ≤ 1 ∧ (a2 = 1 → f.ph = 2)) ∧ (a1 = 1 ∨ a1 = 0 ∧ 5 ≤ f.ph)) && ((f.wt == q) && (!f.wt || decide (f.ph = 2))) := by
  have e : hoB f.ph (a0, a1, a2, a3) = ho3 f.ph a1 a2 := rfl
  unfold asN asB
  rw [e, ho3_eq]
  simp only [Prod.mk.injEq]
theorem h4_0 (x : Int) (l : List T3) : (h4 x l).1 = cntH x 0 l := rfl
theorem h4_1 (x : Int) (l : List T3) : (h4 x l).2.1 = cntH x 1 l := rfl
theorem h4_2 (x : Int) (l : List T3) : (h4 x l).2.2.1 = cntH x 2 l := rfl
theorem h4_3 (x : Int) (l : List T3) : (h4 x l).2.2.2 = cntH x 3 l := rfl
theorem rr_fu (s : Srv) (h : decide ((0 : Int) < ((size (mpD s.q.l) : Nat) : Int)) = true) (h' : decide (((k4 s.hs.l).2.2.1 : Int) < s.co) = true) : rightB s = false := by
  rw [mpD_size] at h
  have h := of_decide_eq_true h
  have h' : ((cntK 2 s.hs.l : Nat) : Int) < s.co := of_decide_eq_true h'
  have e : fuB s = false := by
    unfold fuB
    rw [Bool.or_eq_false_iff]
    exact ⟨decide_eq_false h, decide_eq_false (by omega)⟩
  unfold rightB
  rw [e]
  simp
set_option maxHeartbeats 4000000 in
theorem kRightR_ok : Ev.Spec Try.prog kRightR.sg := by
  refine Ev.spec 176 hMz Try.func9 (by kernel_rfl) fun s hx bs w hl => ?_
  obtain ⟨hx, hwf⟩ : Fit s ∧ WfL s.q.l := hx
  have hh := hx.h
  have hq := hx.q
  have hf := hx.f
  have he : ∀ r, rightB s = r → kRightR.sg.out s () = [] ∧ kRightR.sg.res s () = .val (.bool r) ∧ kRightR.sg.post s () = [] := fun r e => by subst e; exact ⟨rfl, rfl, rfl⟩
  refine Ev.bld0 13 [.int .i64 0, .int .i64 0, .int .i64 0, .int .i64 0] hMz (by kernel_rfl) ?_
  refine Ev.loopS (fun y => y.1 ≤ s.hs.l.length ∧ y.2 = k4 (s.hs.l.take y.1)) (fun y => s.hs.l.length - y.1) (rrA s) (0, 0, 0, 0, 0) [0, 1] [0, 1, 2] hMz ⟨Nat.zero_le _, rfl⟩ (by kernel_rfl) hl fun ⟨i, n0, n1, n2, n3⟩ hi I1 hI1 => ?_
  obtain ⟨hi, hn⟩ : i ≤ s.hs.l.length ∧ (n0, n1, n2, n3) = k4 (s.hs.l.take i) := hi
  have hle := k4_le (s.hs.l.take i)
  rw [← hn, List.length_take] at hle
  obtain ⟨g0, g1, g2, g3⟩ := hle
  have g0 : n0 ≤ min i s.hs.l.length := g0
  have g1 : n1 ≤ min i s.hs.l.length := g1
  have g2 : n2 ≤ min i s.hs.l.length := g2
  have g3 : n3 ≤ min i s.hs.l.length := g3
  refine Ev.split (decide ((i : Int) < (s.hs.l.length : Int))) hMz (by kernel_rfl) (fun hs => ?_) (fun hs => ?_)
  · have hs := of_decide_eq_true hs
    have hi' : i < s.hs.l.length := by omega
    have hc := k4_take hi'
    have hn' := hn
    unfold k4 at hn'
    simp only [Prod.mk.injEq] at hn'
    obtain ⟨e0, e1, e2, e3⟩ := hn'
    rw [← e0, ← e1, ← e2, ← e3] at hc
    refine Ev.learn (p := ∃ b off, s.hs.o = some ⟨b, off, none⟩) 0 (mfH s) (by kernel_rfl) (fun w h => rows_o h hi') fun ⟨b, off, ho⟩ => ?_
    refine Ev.idx (y := (i : Int)) (ao := s.hs.o) (m := s.hs.l.length) (m' := s.hs.l.length) (cc := s.hs.c) 21 i b off 3 hMz (by kernel_rfl) rfl ho rfl hi' ?_
    refine Ev.ldR (b := b) (off := off + i * 3) (k := 3) 22 s.hs.l[i].l hMz (by kernel_rfl) rfl (fun w F => rows_at (Ev.fct F 0 (mfH s) (by kernel_rfl)) hi' ho) ?_
    generalize s.hs.l[i] = x at hc ⊢
    obtain ⟨xa, xb, xc⟩ := x
    refine Ev.split (decide ((0 : Int) ≤ xb)) hMz (by kernel_rfl) (fun h2 => ?_) (fun h2 => ?_)
    · refine Ev.split (decide (xb < (4 : Int))) hMz (by kernel_rfl) (fun h3 => ?_) (fun h3 => ?_)
      · have hb0 := of_decide_eq_true h2
        have hb3 := of_decide_eq_true h3
        rcases kinds hb0 (by omega) with rfl | rfl | rfl | rfl
        · refine Ev.idxA (y := 0) 33 0 1 0 4 1 hMz (by kernel_rfl) rfl (by decide) ?_
          refine Ev.idxA (y := 0) 33 0 1 0 4 1 hMz (by kernel_rfl) rfl (by decide) ?_
          refine Ev.reBW 1 0 ((n0 + 1 : Nat) : Int) hMz (by kernel_rfl) (by omega) (by omega) ?_
          refine Ev.reW 19 ((i + 1 : Nat) : Int) hMz (by kernel_rfl) (by omega) (by omega) ?_
          have out : (n0 + 1, n1, n2, n3) = k4 (s.hs.l.take (i + 1)) := by clear hI1 he; rw [hc, if_pos rfl, if_neg (fun e => absurd (show (0 : Int) = 1 from e) (by decide)), if_neg (fun e => absurd (show (0 : Int) = 2 from e) (by decide)), if_neg (fun e => absurd (show (0 : Int) = 3 from e) (by decide))]; rfl
          exact Ev.againS hI1 (i + 1, n0 + 1, n1, n2, n3) [0, 1] [0, 1, 2] ⟨hi', out⟩ (by show s.hs.l.length - (i + 1) < s.hs.l.length - i; omega) (by kernel_rfl) (by kernel_rfl) hl
        · refine Ev.idxA (y := 1) 33 1 1 0 4 1 hMz (by kernel_rfl) rfl (by decide) ?_
          refine Ev.idxA (y := 1) 33 1 1 0 4 1 hMz (by kernel_rfl) rfl (by decide) ?_
          refine Ev.reBW 1 1 ((n1 + 1 : Nat) : Int) hMz (by kernel_rfl) (by omega) (by omega) ?_
          refine Ev.reW 19 ((i + 1 : Nat) : Int) hMz (by kernel_rfl) (by omega) (by omega) ?_
          have out : (n0, n1 + 1, n2, n3) = k4 (s.hs.l.take (i + 1)) := by clear hI1 he; rw [hc, if_neg (fun e => absurd (show (1 : Int) = 0 from e) (by decide)), if_pos rfl, if_neg (fun e => absurd (show (1 : Int) = 2 from e) (by decide)), if_neg (fun e => absurd (show (1 : Int) = 3 from e) (by decide))]; rfl
          exact Ev.againS hI1 (i + 1, n0, n1 + 1, n2, n3) [0, 1] [0, 1, 2] ⟨hi', out⟩ (by show s.hs.l.length - (i + 1) < s.hs.l.length - i; omega) (by kernel_rfl) (by kernel_rfl) hl
        · refine Ev.idxA (y := 2) 33 2 1 0 4 1 hMz (by kernel_rfl) rfl (by decide) ?_
          refine Ev.idxA (y := 2) 33 2 1 0 4 1 hMz (by kernel_rfl) rfl (by decide) ?_
          refine Ev.reBW 1 2 ((n2 + 1 : Nat) : Int) hMz (by kernel_rfl) (by omega) (by omega) ?_
          refine Ev.reW 19 ((i + 1 : Nat) : Int) hMz (by kernel_rfl) (by omega) (by omega) ?_
          have out : (n0, n1, n2 + 1, n3) = k4 (s.hs.l.take (i + 1)) := by clear hI1 he; rw [hc, if_neg (fun e => absurd (show (2 : Int) = 0 from e) (by decide)), if_neg (fun e => absurd (show (2 : Int) = 1 from e) (by decide)), if_pos rfl, if_neg (fun e => absurd (show (2 : Int) = 3 from e) (by decide))]; rfl
          exact Ev.againS hI1 (i + 1, n0, n1, n2 + 1, n3) [0, 1] [0, 1, 2] ⟨hi', out⟩ (by show s.hs.l.length - (i + 1) < s.hs.l.length - i; omega) (by kernel_rfl) (by kernel_rfl) hl
        · refine Ev.idxA (y := 3) 33 3 1 0 4 1 hMz (by kernel_rfl) rfl (by decide) ?_
          refine Ev.idxA (y := 3) 33 3 1 0 4 1 hMz (by kernel_rfl) rfl (by decide) ?_
          refine Ev.reBW 1 3 ((n3 + 1 : Nat) : Int) hMz (by kernel_rfl) (by omega) (by omega) ?_
          refine Ev.reW 19 ((i + 1 : Nat) : Int) hMz (by kernel_rfl) (by omega) (by omega) ?_
          have out : (n0, n1, n2, n3 + 1) = k4 (s.hs.l.take (i + 1)) := by clear hI1 he; rw [hc, if_neg (fun e => absurd (show (3 : Int) = 0 from e) (by decide)), if_neg (fun e => absurd (show (3 : Int) = 1 from e) (by decide)), if_neg (fun e => absurd (show (3 : Int) = 2 from e) (by decide)), if_pos rfl]; rfl
          exact Ev.againS hI1 (i + 1, n0, n1, n2, n3 + 1) [0, 1] [0, 1, 2] ⟨hi', out⟩ (by show s.hs.l.length - (i + 1) < s.hs.l.length - i; omega) (by kernel_rfl) (by kernel_rfl) hl
      · refine Ev.reW 19 ((i + 1 : Nat) : Int) hMz (by kernel_rfl) (by omega) (by omega) ?_
        have out : (n0, n1, n2, n3) = k4 (s.hs.l.take (i + 1)) := by clear hI1 he; rw [hc, if_neg (fun e => by have : xb = 0 := e; simp_all), if_neg (fun e => by have : xb = 1 := e; simp_all), if_neg (fun e => by have : xb = 2 := e; simp_all), if_neg (fun e => by have : xb = 3 := e; simp_all)]; rfl
        exact Ev.againS hI1 (i + 1, n0, n1, n2, n3) [0, 1] [0, 1, 2] ⟨hi', out⟩ (by show s.hs.l.length - (i + 1) < s.hs.l.length - i; omega) (by kernel_rfl) (by kernel_rfl) hl
    · refine Ev.reW 19 ((i + 1 : Nat) : Int) hMz (by kernel_rfl) (by omega) (by omega) ?_
      have out : (n0, n1, n2, n3) = k4 (s.hs.l.take (i + 1)) := by clear hI1 he; rw [hc, if_neg (fun e => by have : xb = 0 := e; simp_all), if_neg (fun e => by have : xb = 1 := e; simp_all), if_neg (fun e => by have : xb = 2 := e; simp_all), if_neg (fun e => by have : xb = 3 := e; simp_all)]; rfl
      exact Ev.againS hI1 (i + 1, n0, n1, n2, n3) [0, 1] [0, 1, 2] ⟨hi', out⟩ (by show s.hs.l.length - (i + 1) < s.hs.l.length - i; omega) (by kernel_rfl) (by kernel_rfl) hl
  · have hi' : i = s.hs.l.length := by have hs := of_decide_eq_false hs; omega
    have hk : k4 s.hs.l = (n0, n1, n2, n3) := by rw [hn, hi', List.take_length]
    refine Ev.loopS (EnI s) (fun k => (4 - k).toNat) (rrB s) 1 [0, 1] [0, 1, 2] hMz (.inl rfl) (by rw [show rrB s 1 = ⟨[(1, .ptr 0 0), (3, .ptr 1 0), (6, vi 1)], [.cells ((srL s).map .val), .cells (c4 (n0, n1, n2, n3))], [mfH s, mfQ s, mfF s]⟩ by unfold rrB; rw [hk]]; kernel_rfl) hl fun k hk I2 hI2 => ?_
    rcases hk with rfl | ⟨rfl, c1⟩ | ⟨rfl, c1, c2⟩ | ⟨rfl, c1, c2, c3⟩
    · refine Ev.yes (decide ((1 : Int) ≤ 3)) hMz (by kernel_rfl) rfl ?_
      refine Ev.idxA (y := 1) 1 1 1 0 4 1 hMz (by kernel_rfl) rfl (by decide) ?_
      refine Ev.idxA (y := 1) 7 1 0 8 4 1 hMz (by kernel_rfl) rfl (by decide) ?_
      refine Ev.split (decide (s.m1 < ↑(k4 s.hs.l).snd.fst)) hMz (by kernel_rfl) (fun h3 => ?_) (fun h3 => ?_)
      · exact Ev.retE () [] [] (he false (by have h := of_decide_eq_true h3; have h : s.m1 < ((cntK 1 s.hs.l : Nat) : Int) := h; have e : leB s 1 s.m1 = false := decide_eq_false (by omega); unfold rightB enB; rw [e]; simp)) (by kernel_rfl) hl trivial
      · refine Ev.reW 6 2 hMz (by kernel_rfl) (by decide) (by decide) ?_
        have d : leB s 1 s.m1 = true := by have h := of_decide_eq_false h3; have h : ¬ s.m1 < ((cntK 1 s.hs.l : Nat) : Int) := h; unfold leB; exact decide_eq_true (by omega)
        exact Ev.againS hI2 2 [0, 1] [0, 1, 2] (.inr (.inl ⟨rfl, d⟩)) (by decide) (by kernel_rfl) (by kernel_rfl) hl
    · refine Ev.yes (decide ((2 : Int) ≤ 3)) hMz (by kernel_rfl) rfl ?_
      refine Ev.idxA (y := 2) 1 2 1 0 4 1 hMz (by kernel_rfl) rfl (by decide) ?_
      refine Ev.idxA (y := 2) 7 2 0 8 4 1 hMz (by kernel_rfl) rfl (by decide) ?_
      refine Ev.split (decide (s.m2 < ↑(k4 s.hs.l).snd.snd.fst)) hMz (by kernel_rfl) (fun h3 => ?_) (fun h3 => ?_)
      · exact Ev.retE () [] [] (he false (by have h := of_decide_eq_true h3; have h : s.m2 < ((cntK 2 s.hs.l : Nat) : Int) := h; have e : leB s 2 s.m2 = false := decide_eq_false (by omega); unfold rightB enB; rw [e]; simp)) (by kernel_rfl) hl trivial
      · refine Ev.reW 6 3 hMz (by kernel_rfl) (by decide) (by decide) ?_
        have d : leB s 2 s.m2 = true := by have h := of_decide_eq_false h3; have h : ¬ s.m2 < ((cntK 2 s.hs.l : Nat) : Int) := h; unfold leB; exact decide_eq_true (by omega)
        exact Ev.againS hI2 3 [0, 1] [0, 1, 2] (.inr (.inr (.inl ⟨rfl, c1, d⟩))) (by decide) (by kernel_rfl) (by kernel_rfl) hl
    · refine Ev.yes (decide ((3 : Int) ≤ 3)) hMz (by kernel_rfl) rfl ?_
      refine Ev.idxA (y := 3) 1 3 1 0 4 1 hMz (by kernel_rfl) rfl (by decide) ?_
      refine Ev.idxA (y := 3) 7 3 0 8 4 1 hMz (by kernel_rfl) rfl (by decide) ?_
      refine Ev.split (decide (s.m3 < ↑(k4 s.hs.l).snd.snd.snd)) hMz (by kernel_rfl) (fun h3 => ?_) (fun h3 => ?_)
      · exact Ev.retE () [] [] (he false (by have h := of_decide_eq_true h3; have h : s.m3 < ((cntK 3 s.hs.l : Nat) : Int) := h; have e : leB s 3 s.m3 = false := decide_eq_false (by omega); unfold rightB enB; rw [e]; simp)) (by kernel_rfl) hl trivial
      · refine Ev.reW 6 4 hMz (by kernel_rfl) (by decide) (by decide) ?_
        have d : leB s 3 s.m3 = true := by have h := of_decide_eq_false h3; have h : ¬ s.m3 < ((cntK 3 s.hs.l : Nat) : Int) := h; unfold leB; exact decide_eq_true (by omega)
        exact Ev.againS hI2 4 [0, 1] [0, 1, 2] (.inr (.inr (.inr ⟨rfl, c1, c2, d⟩))) (by decide) (by kernel_rfl) (by kernel_rfl) hl
    · refine Ev.no (decide ((4 : Int) ≤ 3)) hMz (by kernel_rfl) rfl ?_
      refine Ev.mkMap 3 (plainElem Try.prog 4) hMz (by kernel_rfl) fun b hb => ?_
      refine Ev.loopS (fun i => i ≤ s.q.l.length ∧ okQ s.fs.l.length [] s.q.l = okQ s.fs.l.length (s.q.l.take i) (s.q.l.drop i)) (fun i => s.q.l.length - i) (rrC s b) 0 [0, 1] [0] hMz ⟨Nat.zero_le _, rfl⟩ (by kernel_rfl) hl fun i hi I3 hI3 => ?_
      obtain ⟨hi, hn⟩ := hi
      refine Ev.split (decide ((i : Int) < (s.q.l.length : Int))) hMz (by kernel_rfl) (fun hs => ?_) (fun hs => ?_)
      · have hs := of_decide_eq_true hs
        have hi' : i < s.q.l.length := by omega
        have ht := take_at hi'
        rw [List.drop_eq_getElem_cons hi', okQ, ← ht] at hn
        refine Ev.learn (p := ∃ b off, s.q.o = some ⟨b, off, none⟩) 0 (mfW s b i (s.q.l.take i)) (by kernel_rfl) (fun w h => rows_o (h.2 (mfQ s) (by simp)).1 hi') fun ⟨b2, off, ho⟩ => ?_
        refine Ev.idx (y := (i : Int)) (ao := s.q.o) (m := s.q.l.length) (m' := s.q.l.length) (cc := s.q.c) 59 i b2 off 1 hMz (by kernel_rfl) rfl ho rfl hi' ?_
        refine Ev.ld1 (b := b2) (off := off + i * 1) 60 (.int .i64 s.q.l[i]) hMz (by kernel_rfl) (fun w F => rows_at ((Ev.fct F 0 (mfW s b i (s.q.l.take i)) (by kernel_rfl)).2 (mfQ s) (by simp)).1 hi' ho 0 _ rfl) ?_
        have hxw := hwf s.q.l[i] (List.getElem_mem hi')
        generalize s.q.l[i] = x at hn ht hxw ⊢
        refine Ev.lookM (T := 62) (p := .map (some b)) (q := .int .i64 x) 63 (.bool (decide (x ∈ s.q.l.take i))) hMz (by kernel_rfl) (fun w F => look_mp (Ev.fct F 0 (mfW s b i (s.q.l.take i)) (by kernel_rfl)).1 x hxw) ?_
        refine Ev.split (decide (x ∈ List.take i s.q.l)) hMz (by kernel_rfl) (fun h4 => ?_) (fun h4 => ?_)
        · have ho : okQ s.fs.l.length [] s.q.l = false := by clear hI1 hI2 hI3 he; rw [hn]; simp_all <;> intros <;> omega
          exact Ev.retE () [] [] (he false (by unfold rightB; rw [ho]; rfl)) (by kernel_rfl) hl trivial
        · refine Ev.split (decide (x < (0 : Int))) hMz (by kernel_rfl) (fun h5 => ?_) (fun h5 => ?_)
          · have ho : okQ s.fs.l.length [] s.q.l = false := by clear hI1 hI2 hI3 he; rw [hn]; simp_all <;> intros <;> omega
            exact Ev.retE () [] [] (he false (by unfold rightB; rw [ho]; rfl)) (by kernel_rfl) hl trivial
          · refine Ev.split (decide (↑s.fs.l.length ≤ x)) hMz (by kernel_rfl) (fun h6 => ?_) (fun h6 => ?_)
            · have ho : okQ s.fs.l.length [] s.q.l = false := by clear hI1 hI2 hI3 he; rw [hn]; simp_all <;> intros <;> omega
              exact Ev.retE () [] [] (he false (by unfold rightB; rw [ho]; rfl)) (by kernel_rfl) hl trivial
            · refine Ev.upM (T := 62) (k := 3) (e := 4) (R := plainElem Try.prog 4) (ms := [mfH s, mfQ s, mfF s]) (b := b) (n := i) (D := mpD (s.q.l.take i)) (key := .int .i64 x) (val := .bool true) 0 (.int .i64 x) (.lit (.bool true)) hMz (by kernel_rfl) (by kernel_rfl) (by kernel_rfl) hb (int_keyed Try.underlying3) Try.underlying62 (by unfold maxLen; omega) (keyOf_int_mk Try.underlying3 hxw) (plainElem_bool Try.underlying4 true) ?_
              refine Ev.reW 57 ((i + 1 : Nat) : Int) hMz (by kernel_rfl) (by omega) (by omega) ?_
              have hm : mfW s b (i + 1) (s.q.l.take (i + 1)) = Ev.mfMp Try.prog 3 (plainElem Try.prog 4) [mfH s, mfQ s, mfF s] b (i + 1) ((mpD (s.q.l.take i)).put (.int .i64 x) (.lit (.bool true))) := by unfold mfW; rw [ht, mpD_snoc]
              exact Ev.againS hI3 (i + 1) [0, 1] [0] ⟨hi', by clear hI1 hI2 hI3 he; rw [hn]; simp_all⟩ (by show s.q.l.length - (i + 1) < s.q.l.length - i; omega) (by kernel_rfl) (by rw [show rrC s b (i + 1) = ⟨[(1, .ptr 0 0), (3, .ptr 1 0), (7, .val (.map (some b))), (55, .val s.q.v), (56, vi (s.q.l.length : Int)), (57, vi ((i + 1 : Nat) : Int))], [.cells ((srL s).map .val), .cells (c4 (k4 s.hs.l))], [Ev.mfMp Try.prog 3 (plainElem Try.prog 4) [mfH s, mfQ s, mfF s] b (i + 1) ((mpD (s.q.l.take i)).put (.int .i64 x) (.lit (.bool true)))]⟩ by unfold rrC; rw [hm]]; kernel_rfl) hl
      · have hi' : i = s.q.l.length := by have hs := of_decide_eq_false hs; omega
        subst hi'
        rw [List.drop_length, okQ] at hn
        have hqe : s.q.l.take s.q.l.length = s.q.l := List.take_length
        have hme : mfW s b s.q.l.length (s.q.l.take s.q.l.length) = mfW s b s.q.l.length s.q.l := by rw [hqe]
        refine Ev.more [0] [mfW s b s.q.l.length (s.q.l.take s.q.l.length)] (mfW s b s.q.l.length s.q.l) hMz (by kernel_rfl) (fun w h => by rw [← hme]; exact h _ (List.mem_singleton_self _)) (fun X h => by rw [← hme]; exact h _ (List.mem_singleton_self _)) ?_
        refine Ev.lenM (T := 62) (p := .map (some b)) 79 (.int .i64 ((size (mpD s.q.l) : Nat) : Int)) hMz (by kernel_rfl) (fun w ty F => len_mp (Ev.fct F 0 (mfW s b s.q.l.length s.q.l) (by kernel_rfl)).1 ty) ?_
        refine Ev.split (decide ((0 : Int) < ↑(size (mpD s.q.l)))) hMz (by kernel_rfl) (fun h4 => ?_) (fun h4 => ?_)
        · refine Ev.idxA (y := 2) 0 2 1 0 4 1 hMz (by kernel_rfl) rfl (by decide) ?_
          refine Ev.split (decide (↑(k4 s.hs.l).snd.snd.fst < s.co)) hMz (by kernel_rfl) (fun h5 => ?_) (fun h5 => ?_)
          · exact Ev.retE () [] [] (he false (rr_fu s h4 h5)) (by kernel_rfl) hl trivial
          · have e1 : enB s = true := by unfold enB; rw [c1, c2, c3]; rfl
            have e2 : fuB s = true := by have h := of_decide_eq_false h5; have h : ¬ ((cntK 2 s.hs.l : Nat) : Int) < s.co := h; unfold fuB; rw [Bool.or_eq_true]; exact .inr (decide_eq_true (by omega))
            have hr : rightB s = faB s 0 (s.fs.l.drop 0) := by unfold rightB; rw [hn, e1, e2]; rfl
            refine Ev.loopS (fun i => i ≤ s.fs.l.length ∧ rightB s = faB s i (s.fs.l.drop i)) (fun i => s.fs.l.length - i) (rrD s b) 0 [0, 1] [0] hMz ⟨Nat.zero_le _, hr⟩ (by kernel_rfl) hl fun i hi I4 hI4 => ?_
            obtain ⟨hi, hn⟩ := hi
            refine Ev.split (decide ((i : Int) < (s.fs.l.length : Int))) hMz (by kernel_rfl) (fun hs => ?_) (fun hs => ?_)
            · have hs := of_decide_eq_true hs
              have hi' : i < s.fs.l.length := by omega
              rw [List.drop_eq_getElem_cons hi', faB] at hn
              refine Ev.more [0] [mfW s b s.q.l.length s.q.l] (mfF s) hMz (by kernel_rfl) (fun w h => ((h _ (List.mem_singleton_self _)).2 (mfF s) (by simp)).1) (fun X h => (h _ (List.mem_singleton_self _)).2 (mfF s) (by simp)) ?_
              refine Ev.more [1] [mfW s b s.q.l.length s.q.l] (mfH s) hMz (by kernel_rfl) (fun w h => ((h _ (List.mem_singleton_self _)).2 (mfH s) (by simp)).1) (fun X h => (h _ (List.mem_singleton_self _)).2 (mfH s) (by simp)) ?_
              refine Ev.learn (p := ∃ b off, s.fs.o = some ⟨b, off, none⟩) 1 (mfF s) (by kernel_rfl) (fun w h => rows_o h hi') fun ⟨b2, off, ho⟩ => ?_
              refine Ev.idx (y := (i : Int)) (ao := s.fs.o) (m := s.fs.l.length) (m' := s.fs.l.length) (cc := s.fs.c) 95 i b2 off 16 hMz (by kernel_rfl) rfl ho rfl hi' ?_
              refine Ev.ldR (b := b2) (off := off + i * 16) (k := 16) 96 s.fs.l[i].l hMz (by kernel_rfl) rfl (fun w F => rows_at (Ev.fct F 1 (mfF s) (by kernel_rfl)) hi' ho) ?_
              generalize s.fs.l[i] = f at hn ⊢
              obtain ⟨id, ph, po, a0, a1, a2, a3, st, b1, b2, b3, p0, p1, p2, wt, fa⟩ := f
              refine Ev.callC kHeldR_ok (s, id) [] [0] hMz (by kernel_rfl) hx fun _ _ => ?_
              refine Ev.split (decide ¬id = ↑i) hMz (by kernel_rfl) (fun h7 => ?_) (fun h7 => ?_)
              · exact Ev.retE () [] [] (he false (by clear hI1 hI2 hI3 hI4 he hr; rw [hn]; simp_all [asB_h4, asN_eq] <;> intros <;> omega)) (by kernel_rfl) hl trivial
              · refine Ev.split (decide (ph < (1 : Int))) hMz (by kernel_rfl) (fun h8 => ?_) (fun h8 => ?_)
                · exact Ev.retE () [] [] (he false (by clear hI1 hI2 hI3 hI4 he hr; rw [hn]; simp_all [asB_h4, asN_eq] <;> intros <;> omega)) (by kernel_rfl) hl trivial
                · refine Ev.split (decide ((6 : Int) < ph)) hMz (by kernel_rfl) (fun h9 => ?_) (fun h9 => ?_)
                  · exact Ev.retE () [] [] (he false (by clear hI1 hI2 hI3 hI4 he hr; rw [hn]; simp_all [asB_h4, asN_eq] <;> intros <;> omega)) (by kernel_rfl) hl trivial
                  · refine Ev.split (decide (ph = (6 : Int))) hMz (by kernel_rfl) (fun h10 => ?_) (fun h10 => ?_)
                    · refine Ev.bld0 119 [.int .i64 0, .int .i64 0, .int .i64 0, .int .i64 0] hMz (by kernel_rfl) ?_
                      refine Ev.eqv (ne := true) (T := 28) (p := .agg #[.int .i64 (cntH id 0 s.hs.l : Nat), .int .i64 (cntH id 1 s.hs.l : Nat), .int .i64 (cntH id 2 s.hs.l : Nat), .int .i64 (cntH id 3 s.hs.l : Nat)]) (q := .agg #[.int .i64 0, .int .i64 0, .int .i64 0, .int .i64 0]) 120 (((cntH id 0 s.hs.l : Nat) : Int) == 0 && (((cntH id 1 s.hs.l : Nat) : Int) == 0 && (((cntH id 2 s.hs.l : Nat) : Int) == 0 && (((cntH id 3 s.hs.l : Nat) : Int) == 0 && true)))) hMz (by kernel_rfl) ⟨⟨_, rfl⟩, _, rfl⟩ (fun w => eqA w _ _ _ _ _ _ _ _) ?_
                      refine Ev.split (true ^^ ↑(cntH id (0 : Int) s.hs.l) == (0 : Int) && (↑(cntH id (1 : Int) s.hs.l) == (0 : Int) && (↑(cntH id (2 : Int) s.hs.l) == (0 : Int) && (↑(cntH id (3 : Int) s.hs.l) == (0 : Int) && true)))) hMz (by kernel_rfl) (fun h11 => ?_) (fun h11 => ?_)
                      · exact Ev.retE () [] [] (he false (by clear hI1 hI2 hI3 hI4 he hr; rw [hn]; simp_all [asB_h4, asN_eq] <;> intros <;> omega)) (by kernel_rfl) hl trivial
                      · refine Ev.split (wt) hMz (by kernel_rfl) (fun h12 => ?_) (fun h12 => ?_)
                        · exact Ev.retE () [] [] (he false (by clear hI1 hI2 hI3 hI4 he hr; rw [hn]; simp_all [asB_h4, asN_eq] <;> intros <;> omega)) (by kernel_rfl) hl trivial
                        · refine Ev.split (decide (st = (0 : Int))) hMz (by kernel_rfl) (fun h13 => ?_) (fun h13 => ?_)
                          · exact Ev.retE () [] [] (he false (by clear hI1 hI2 hI3 hI4 he hr; rw [hn]; simp_all [asB_h4, asN_eq] <;> intros <;> omega)) (by kernel_rfl) hl trivial
                          · refine Ev.reW 92 ((i + 1 : Nat) : Int) hMz (by kernel_rfl) (by omega) (by omega) ?_
                            exact Ev.againS hI4 (i + 1) [0, 1] [2] ⟨hi', by clear hI1 hI2 hI3 hI4 he hr; rw [hn]; simp_all [asB_h4, asN_eq] <;> intros <;> omega⟩ (by show s.fs.l.length - (i + 1) < s.fs.l.length - i; omega) (by kernel_rfl) (by kernel_rfl) hl
                    · refine Ev.idxA (y := 2) 0 2 3 0 4 1 hMz (by kernel_rfl) rfl (by decide) ?_
                      refine Ev.split (decide ((1 : Int) < ↑(Ytkjpbjgepnbibaa.h4 id s.hs.l).snd.snd.fst)) hMz (by kernel_rfl) (fun h11 => ?_) (fun h11 => ?_)
                      · exact Ev.retE () [] [] (he false (by clear hI1 hI2 hI3 hI4 he hr; rw [hn]; simp_all [asB_h4, asN_eq, h4_2] <;> intros <;> omega)) (by kernel_rfl) hl trivial
                      · refine Ev.idxA (y := 2) 0 2 3 0 4 1 hMz (by kernel_rfl) rfl (by decide) ?_
                        refine Ev.split (decide (↑(Ytkjpbjgepnbibaa.h4 id s.hs.l).snd.snd.fst = (1 : Int))) hMz (by kernel_rfl) (fun h12 => ?_) (fun h12 => ?_)
                        · refine Ev.split (decide ¬ph = (2 : Int)) hMz (by kernel_rfl) (fun h13 => ?_) (fun h13 => ?_)
                          · exact Ev.retE () [] [] (he false (by clear hI1 hI2 hI3 hI4 he hr; rw [hn]; simp_all [asB_h4, asN_eq, h4_2] <;> intros <;> omega)) (by kernel_rfl) hl trivial
                          · refine Ev.idxA (y := 1) 0 1 3 0 4 1 hMz (by kernel_rfl) rfl (by decide) ?_
                            refine Ev.split (decide ((1 : Int) < ↑(Ytkjpbjgepnbibaa.h4 id s.hs.l).snd.fst)) hMz (by kernel_rfl) (fun h14 => ?_) (fun h14 => ?_)
                            · exact Ev.retE () [] [] (he false (by clear hI1 hI2 hI3 hI4 he hr; rw [hn]; simp_all [asB_h4, asN_eq, h4_1, h4_2] <;> intros <;> omega)) (by kernel_rfl) hl trivial
                            · refine Ev.idxA (y := 1) 0 1 3 0 4 1 hMz (by kernel_rfl) rfl (by decide) ?_
                              refine Ev.split (decide (↑(Ytkjpbjgepnbibaa.h4 id s.hs.l).snd.fst = (0 : Int))) hMz (by kernel_rfl) (fun h15 => ?_) (fun h15 => ?_)
                              · refine Ev.split (decide (ph < (5 : Int))) hMz (by kernel_rfl) (fun h16 => ?_) (fun h16 => ?_)
                                · exact Ev.retE () [] [] (he false (by clear hI1 hI2 hI3 hI4 he hr; rw [hn]; simp_all [asB_h4, asN_eq, h4_1, h4_2] <;> intros <;> omega)) (by kernel_rfl) hl trivial
                                · have hid : id = (i : Int) := by simpa using h7
                                  refine Ev.lookM (T := 62) (p := .map (some b)) (q := .int .i64 id) 164 (.bool (decide (id ∈ s.q.l))) hMz (by kernel_rfl) (fun w F => look_mp (Ev.fct F 2 (mfW s b s.q.l.length s.q.l) (by kernel_rfl)).1 id (by rw [hid]; exact wf_nat i (by omega))) ?_
                                  refine Ev.split (!wt == decide (id ∈ s.q.l)) hMz (by kernel_rfl) (fun h17 => ?_) (fun h17 => ?_)
                                  · exact Ev.retE () [] [] (he false (by clear hI1 hI2 hI3 hI4 he hr; rw [hn]; simp_all [asB_h4, asN_eq, h4_1, h4_2] <;> intros <;> omega)) (by kernel_rfl) hl trivial
                                  · refine Ev.split (wt) hMz (by kernel_rfl) (fun h18 => ?_) (fun h18 => ?_)
                                    · refine Ev.no (decide ¬ph = (2 : Int)) hMz (by kernel_rfl) h13 ?_
                                      refine Ev.reW 92 ((i + 1 : Nat) : Int) hMz (by kernel_rfl) (by omega) (by omega) ?_
                                      exact Ev.againS hI4 (i + 1) [0, 1] [2] ⟨hi', by clear hI1 hI2 hI3 hI4 he hr; rw [hn]; simp_all [asB_h4, asN_eq, h4_1, h4_2] <;> intros <;> omega⟩ (by show s.fs.l.length - (i + 1) < s.fs.l.length - i; omega) (by kernel_rfl) (by kernel_rfl) hl
                                    · refine Ev.reW 92 ((i + 1 : Nat) : Int) hMz (by kernel_rfl) (by omega) (by omega) ?_
                                      exact Ev.againS hI4 (i + 1) [0, 1] [2] ⟨hi', by clear hI1 hI2 hI3 hI4 he hr; rw [hn]; simp_all [asB_h4, asN_eq, h4_1, h4_2] <;> intros <;> omega⟩ (by show s.fs.l.length - (i + 1) < s.fs.l.length - i; omega) (by kernel_rfl) (by kernel_rfl) hl
                              · have hid : id = (i : Int) := by simpa using h7
                                refine Ev.lookM (T := 62) (p := .map (some b)) (q := .int .i64 id) 164 (.bool (decide (id ∈ s.q.l))) hMz (by kernel_rfl) (fun w F => look_mp (Ev.fct F 2 (mfW s b s.q.l.length s.q.l) (by kernel_rfl)).1 id (by rw [hid]; exact wf_nat i (by omega))) ?_
                                refine Ev.split (!wt == decide (id ∈ s.q.l)) hMz (by kernel_rfl) (fun h16 => ?_) (fun h16 => ?_)
                                · exact Ev.retE () [] [] (he false (by clear hI1 hI2 hI3 hI4 he hr; rw [hn]; simp_all [asB_h4, asN_eq, h4_1, h4_2] <;> intros <;> omega)) (by kernel_rfl) hl trivial
                                · refine Ev.split (wt) hMz (by kernel_rfl) (fun h17 => ?_) (fun h17 => ?_)
                                  · refine Ev.no (decide ¬ph = (2 : Int)) hMz (by kernel_rfl) h13 ?_
                                    refine Ev.reW 92 ((i + 1 : Nat) : Int) hMz (by kernel_rfl) (by omega) (by omega) ?_
                                    exact Ev.againS hI4 (i + 1) [0, 1] [2] ⟨hi', by clear hI1 hI2 hI3 hI4 he hr; rw [hn]; simp_all [asB_h4, asN_eq, h4_1, h4_2] <;> intros <;> omega⟩ (by show s.fs.l.length - (i + 1) < s.fs.l.length - i; omega) (by kernel_rfl) (by kernel_rfl) hl
                                  · refine Ev.reW 92 ((i + 1 : Nat) : Int) hMz (by kernel_rfl) (by omega) (by omega) ?_
                                    exact Ev.againS hI4 (i + 1) [0, 1] [2] ⟨hi', by clear hI1 hI2 hI3 hI4 he hr; rw [hn]; simp_all [asB_h4, asN_eq, h4_1, h4_2] <;> intros <;> omega⟩ (by show s.fs.l.length - (i + 1) < s.fs.l.length - i; omega) (by kernel_rfl) (by kernel_rfl) hl
                        · refine Ev.idxA (y := 1) 0 1 3 0 4 1 hMz (by kernel_rfl) rfl (by decide) ?_
                          refine Ev.split (decide ((1 : Int) < ↑(Ytkjpbjgepnbibaa.h4 id s.hs.l).snd.fst)) hMz (by kernel_rfl) (fun h13 => ?_) (fun h13 => ?_)
                          · exact Ev.retE () [] [] (he false (by clear hI1 hI2 hI3 hI4 he hr; rw [hn]; simp_all [asB_h4, asN_eq, h4_1, h4_2] <;> intros <;> omega)) (by kernel_rfl) hl trivial
                          · refine Ev.idxA (y := 1) 0 1 3 0 4 1 hMz (by kernel_rfl) rfl (by decide) ?_
                            refine Ev.split (decide (↑(Ytkjpbjgepnbibaa.h4 id s.hs.l).snd.fst = (0 : Int))) hMz (by kernel_rfl) (fun h14 => ?_) (fun h14 => ?_)
                            · refine Ev.split (decide (ph < (5 : Int))) hMz (by kernel_rfl) (fun h15 => ?_) (fun h15 => ?_)
                              · exact Ev.retE () [] [] (he false (by clear hI1 hI2 hI3 hI4 he hr; rw [hn]; simp_all [asB_h4, asN_eq, h4_1, h4_2] <;> intros <;> omega)) (by kernel_rfl) hl trivial
                              · have hid : id = (i : Int) := by simpa using h7
                                refine Ev.lookM (T := 62) (p := .map (some b)) (q := .int .i64 id) 164 (.bool (decide (id ∈ s.q.l))) hMz (by kernel_rfl) (fun w F => look_mp (Ev.fct F 2 (mfW s b s.q.l.length s.q.l) (by kernel_rfl)).1 id (by rw [hid]; exact wf_nat i (by omega))) ?_
                                refine Ev.split (!wt == decide (id ∈ s.q.l)) hMz (by kernel_rfl) (fun h16 => ?_) (fun h16 => ?_)
                                · exact Ev.retE () [] [] (he false (by clear hI1 hI2 hI3 hI4 he hr; rw [hn]; simp_all [asB_h4, asN_eq, h4_1, h4_2] <;> intros <;> omega)) (by kernel_rfl) hl trivial
                                · refine Ev.split (wt) hMz (by kernel_rfl) (fun h17 => ?_) (fun h17 => ?_)
                                  · refine Ev.split (decide ¬ph = (2 : Int)) hMz (by kernel_rfl) (fun h18 => ?_) (fun h18 => ?_)
                                    · exact Ev.retE () [] [] (he false (by clear hI1 hI2 hI3 hI4 he hr; rw [hn]; simp_all [asB_h4, asN_eq, h4_1, h4_2] <;> intros <;> omega)) (by kernel_rfl) hl trivial
                                    · refine Ev.reW 92 ((i + 1 : Nat) : Int) hMz (by kernel_rfl) (by omega) (by omega) ?_
                                      exact Ev.againS hI4 (i + 1) [0, 1] [2] ⟨hi', by clear hI1 hI2 hI3 hI4 he hr; rw [hn]; simp_all [asB_h4, asN_eq, h4_1, h4_2] <;> intros <;> omega⟩ (by show s.fs.l.length - (i + 1) < s.fs.l.length - i; omega) (by kernel_rfl) (by kernel_rfl) hl
                                  · refine Ev.reW 92 ((i + 1 : Nat) : Int) hMz (by kernel_rfl) (by omega) (by omega) ?_
                                    exact Ev.againS hI4 (i + 1) [0, 1] [2] ⟨hi', by clear hI1 hI2 hI3 hI4 he hr; rw [hn]; simp_all [asB_h4, asN_eq, h4_1, h4_2] <;> intros <;> omega⟩ (by show s.fs.l.length - (i + 1) < s.fs.l.length - i; omega) (by kernel_rfl) (by kernel_rfl) hl
                            · have hid : id = (i : Int) := by simpa using h7
                              refine Ev.lookM (T := 62) (p := .map (some b)) (q := .int .i64 id) 164 (.bool (decide (id ∈ s.q.l))) hMz (by kernel_rfl) (fun w F => look_mp (Ev.fct F 2 (mfW s b s.q.l.length s.q.l) (by kernel_rfl)).1 id (by rw [hid]; exact wf_nat i (by omega))) ?_
                              refine Ev.split (!wt == decide (id ∈ s.q.l)) hMz (by kernel_rfl) (fun h15 => ?_) (fun h15 => ?_)
                              · exact Ev.retE () [] [] (he false (by clear hI1 hI2 hI3 hI4 he hr; rw [hn]; simp_all [asB_h4, asN_eq, h4_1, h4_2] <;> intros <;> omega)) (by kernel_rfl) hl trivial
                              · refine Ev.split (wt) hMz (by kernel_rfl) (fun h16 => ?_) (fun h16 => ?_)
                                · refine Ev.split (decide ¬ph = (2 : Int)) hMz (by kernel_rfl) (fun h17 => ?_) (fun h17 => ?_)
                                  · exact Ev.retE () [] [] (he false (by clear hI1 hI2 hI3 hI4 he hr; rw [hn]; simp_all [asB_h4, asN_eq, h4_1, h4_2] <;> intros <;> omega)) (by kernel_rfl) hl trivial
                                  · refine Ev.reW 92 ((i + 1 : Nat) : Int) hMz (by kernel_rfl) (by omega) (by omega) ?_
                                    exact Ev.againS hI4 (i + 1) [0, 1] [2] ⟨hi', by clear hI1 hI2 hI3 hI4 he hr; rw [hn]; simp_all [asB_h4, asN_eq, h4_1, h4_2] <;> intros <;> omega⟩ (by show s.fs.l.length - (i + 1) < s.fs.l.length - i; omega) (by kernel_rfl) (by kernel_rfl) hl
                                · refine Ev.reW 92 ((i + 1 : Nat) : Int) hMz (by kernel_rfl) (by omega) (by omega) ?_
                                  exact Ev.againS hI4 (i + 1) [0, 1] [2] ⟨hi', by clear hI1 hI2 hI3 hI4 he hr; rw [hn]; simp_all [asB_h4, asN_eq, h4_1, h4_2] <;> intros <;> omega⟩ (by show s.fs.l.length - (i + 1) < s.fs.l.length - i; omega) (by kernel_rfl) (by kernel_rfl) hl
            · have hs := of_decide_eq_false hs
              have hi' : i = s.fs.l.length := by omega
              exact Ev.retE () [] [] (he true (by rw [hn, hi', List.drop_length]; rfl)) (by kernel_rfl) hl trivial
        · have e1 : enB s = true := by unfold enB; rw [c1, c2, c3]; rfl
          have e2 : fuB s = true := by have h := h4; rw [mpD_size] at h; have h := of_decide_eq_false h; unfold fuB; rw [Bool.or_eq_true]; exact .inl (decide_eq_true (by omega))
          have hr : rightB s = faB s 0 (s.fs.l.drop 0) := by unfold rightB; rw [hn, e1, e2]; rfl
          refine Ev.loopS (fun i => i ≤ s.fs.l.length ∧ rightB s = faB s i (s.fs.l.drop i)) (fun i => s.fs.l.length - i) (rrD s b) 0 [0, 1] [0] hMz ⟨Nat.zero_le _, hr⟩ (by kernel_rfl) hl fun i hi I4 hI4 => ?_
          obtain ⟨hi, hn⟩ := hi
          refine Ev.split (decide ((i : Int) < (s.fs.l.length : Int))) hMz (by kernel_rfl) (fun hs => ?_) (fun hs => ?_)
          · have hs := of_decide_eq_true hs
            have hi' : i < s.fs.l.length := by omega
            rw [List.drop_eq_getElem_cons hi', faB] at hn
            refine Ev.more [0] [mfW s b s.q.l.length s.q.l] (mfF s) hMz (by kernel_rfl) (fun w h => ((h _ (List.mem_singleton_self _)).2 (mfF s) (by simp)).1) (fun X h => (h _ (List.mem_singleton_self _)).2 (mfF s) (by simp)) ?_
            refine Ev.more [1] [mfW s b s.q.l.length s.q.l] (mfH s) hMz (by kernel_rfl) (fun w h => ((h _ (List.mem_singleton_self _)).2 (mfH s) (by simp)).1) (fun X h => (h _ (List.mem_singleton_self _)).2 (mfH s) (by simp)) ?_
            refine Ev.learn (p := ∃ b off, s.fs.o = some ⟨b, off, none⟩) 1 (mfF s) (by kernel_rfl) (fun w h => rows_o h hi') fun ⟨b2, off, ho⟩ => ?_
            refine Ev.idx (y := (i : Int)) (ao := s.fs.o) (m := s.fs.l.length) (m' := s.fs.l.length) (cc := s.fs.c) 95 i b2 off 16 hMz (by kernel_rfl) rfl ho rfl hi' ?_
            refine Ev.ldR (b := b2) (off := off + i * 16) (k := 16) 96 s.fs.l[i].l hMz (by kernel_rfl) rfl (fun w F => rows_at (Ev.fct F 1 (mfF s) (by kernel_rfl)) hi' ho) ?_
            generalize s.fs.l[i] = f at hn ⊢
            obtain ⟨id, ph, po, a0, a1, a2, a3, st, b1, b2, b3, p0, p1, p2, wt, fa⟩ := f
            refine Ev.callC kHeldR_ok (s, id) [] [0] hMz (by kernel_rfl) hx fun _ _ => ?_
            refine Ev.split (decide ¬id = ↑i) hMz (by kernel_rfl) (fun h6 => ?_) (fun h6 => ?_)
            · exact Ev.retE () [] [] (he false (by clear hI1 hI2 hI3 hI4 he hr; rw [hn]; simp_all [asB_h4, asN_eq] <;> intros <;> omega)) (by kernel_rfl) hl trivial
            · refine Ev.split (decide (ph < (1 : Int))) hMz (by kernel_rfl) (fun h7 => ?_) (fun h7 => ?_)
              · exact Ev.retE () [] [] (he false (by clear hI1 hI2 hI3 hI4 he hr; rw [hn]; simp_all [asB_h4, asN_eq] <;> intros <;> omega)) (by kernel_rfl) hl trivial
              · refine Ev.split (decide ((6 : Int) < ph)) hMz (by kernel_rfl) (fun h8 => ?_) (fun h8 => ?_)
                · exact Ev.retE () [] [] (he false (by clear hI1 hI2 hI3 hI4 he hr; rw [hn]; simp_all [asB_h4, asN_eq] <;> intros <;> omega)) (by kernel_rfl) hl trivial
                · refine Ev.split (decide (ph = (6 : Int))) hMz (by kernel_rfl) (fun h9 => ?_) (fun h9 => ?_)
                  · refine Ev.bld0 119 [.int .i64 0, .int .i64 0, .int .i64 0, .int .i64 0] hMz (by kernel_rfl) ?_
                    refine Ev.eqv (ne := true) (T := 28) (p := .agg #[.int .i64 (cntH id 0 s.hs.l : Nat), .int .i64 (cntH id 1 s.hs.l : Nat), .int .i64 (cntH id 2 s.hs.l : Nat), .int .i64 (cntH id 3 s.hs.l : Nat)]) (q := .agg #[.int .i64 0, .int .i64 0, .int .i64 0, .int .i64 0]) 120 (((cntH id 0 s.hs.l : Nat) : Int) == 0 && (((cntH id 1 s.hs.l : Nat) : Int) == 0 && (((cntH id 2 s.hs.l : Nat) : Int) == 0 && (((cntH id 3 s.hs.l : Nat) : Int) == 0 && true)))) hMz (by kernel_rfl) ⟨⟨_, rfl⟩, _, rfl⟩ (fun w => eqA w _ _ _ _ _ _ _ _) ?_
                    refine Ev.split (true ^^ ↑(cntH id (0 : Int) s.hs.l) == (0 : Int) && (↑(cntH id (1 : Int) s.hs.l) == (0 : Int) && (↑(cntH id (2 : Int) s.hs.l) == (0 : Int) && (↑(cntH id (3 : Int) s.hs.l) == (0 : Int) && true)))) hMz (by kernel_rfl) (fun h10 => ?_) (fun h10 => ?_)
                    · exact Ev.retE () [] [] (he false (by clear hI1 hI2 hI3 hI4 he hr; rw [hn]; simp_all [asB_h4, asN_eq] <;> intros <;> omega)) (by kernel_rfl) hl trivial
                    · refine Ev.split (wt) hMz (by kernel_rfl) (fun h11 => ?_) (fun h11 => ?_)
                      · exact Ev.retE () [] [] (he false (by clear hI1 hI2 hI3 hI4 he hr; rw [hn]; simp_all [asB_h4, asN_eq] <;> intros <;> omega)) (by kernel_rfl) hl trivial
                      · refine Ev.split (decide (st = (0 : Int))) hMz (by kernel_rfl) (fun h12 => ?_) (fun h12 => ?_)
                        · exact Ev.retE () [] [] (he false (by clear hI1 hI2 hI3 hI4 he hr; rw [hn]; simp_all [asB_h4, asN_eq] <;> intros <;> omega)) (by kernel_rfl) hl trivial
                        · refine Ev.reW 92 ((i + 1 : Nat) : Int) hMz (by kernel_rfl) (by omega) (by omega) ?_
                          exact Ev.againS hI4 (i + 1) [0, 1] [2] ⟨hi', by clear hI1 hI2 hI3 hI4 he hr; rw [hn]; simp_all [asB_h4, asN_eq] <;> intros <;> omega⟩ (by show s.fs.l.length - (i + 1) < s.fs.l.length - i; omega) (by kernel_rfl) (by kernel_rfl) hl
                  · refine Ev.idxA (y := 2) 0 2 3 0 4 1 hMz (by kernel_rfl) rfl (by decide) ?_
                    refine Ev.split (decide ((1 : Int) < ↑(Ytkjpbjgepnbibaa.h4 id s.hs.l).snd.snd.fst)) hMz (by kernel_rfl) (fun h10 => ?_) (fun h10 => ?_)
                    · exact Ev.retE () [] [] (he false (by clear hI1 hI2 hI3 hI4 he hr; rw [hn]; simp_all [asB_h4, asN_eq, h4_2] <;> intros <;> omega)) (by kernel_rfl) hl trivial
                    · refine Ev.idxA (y := 2) 0 2 3 0 4 1 hMz (by kernel_rfl) rfl (by decide) ?_
                      refine Ev.split (decide (↑(Ytkjpbjgepnbibaa.h4 id s.hs.l).snd.snd.fst = (1 : Int))) hMz (by kernel_rfl) (fun h11 => ?_) (fun h11 => ?_)
                      · refine Ev.split (decide ¬ph = (2 : Int)) hMz (by kernel_rfl) (fun h12 => ?_) (fun h12 => ?_)
                        · exact Ev.retE () [] [] (he false (by clear hI1 hI2 hI3 hI4 he hr; rw [hn]; simp_all [asB_h4, asN_eq, h4_2] <;> intros <;> omega)) (by kernel_rfl) hl trivial
                        · refine Ev.idxA (y := 1) 0 1 3 0 4 1 hMz (by kernel_rfl) rfl (by decide) ?_
                          refine Ev.split (decide ((1 : Int) < ↑(Ytkjpbjgepnbibaa.h4 id s.hs.l).snd.fst)) hMz (by kernel_rfl) (fun h13 => ?_) (fun h13 => ?_)
                          · exact Ev.retE () [] [] (he false (by clear hI1 hI2 hI3 hI4 he hr; rw [hn]; simp_all [asB_h4, asN_eq, h4_1, h4_2] <;> intros <;> omega)) (by kernel_rfl) hl trivial
                          · refine Ev.idxA (y := 1) 0 1 3 0 4 1 hMz (by kernel_rfl) rfl (by decide) ?_
                            refine Ev.split (decide (↑(Ytkjpbjgepnbibaa.h4 id s.hs.l).snd.fst = (0 : Int))) hMz (by kernel_rfl) (fun h14 => ?_) (fun h14 => ?_)
                            · refine Ev.split (decide (ph < (5 : Int))) hMz (by kernel_rfl) (fun h15 => ?_) (fun h15 => ?_)
                              · exact Ev.retE () [] [] (he false (by clear hI1 hI2 hI3 hI4 he hr; rw [hn]; simp_all [asB_h4, asN_eq, h4_1, h4_2] <;> intros <;> omega)) (by kernel_rfl) hl trivial
                              · have hid : id = (i : Int) := by simpa using h6
                                refine Ev.lookM (T := 62) (p := .map (some b)) (q := .int .i64 id) 164 (.bool (decide (id ∈ s.q.l))) hMz (by kernel_rfl) (fun w F => look_mp (Ev.fct F 2 (mfW s b s.q.l.length s.q.l) (by kernel_rfl)).1 id (by rw [hid]; exact wf_nat i (by omega))) ?_
                                refine Ev.split (!wt == decide (id ∈ s.q.l)) hMz (by kernel_rfl) (fun h16 => ?_) (fun h16 => ?_)
                                · exact Ev.retE () [] [] (he false (by clear hI1 hI2 hI3 hI4 he hr; rw [hn]; simp_all [asB_h4, asN_eq, h4_1, h4_2] <;> intros <;> omega)) (by kernel_rfl) hl trivial
                                · refine Ev.split (wt) hMz (by kernel_rfl) (fun h17 => ?_) (fun h17 => ?_)
                                  · refine Ev.no (decide ¬ph = (2 : Int)) hMz (by kernel_rfl) h12 ?_
                                    refine Ev.reW 92 ((i + 1 : Nat) : Int) hMz (by kernel_rfl) (by omega) (by omega) ?_
                                    exact Ev.againS hI4 (i + 1) [0, 1] [2] ⟨hi', by clear hI1 hI2 hI3 hI4 he hr; rw [hn]; simp_all [asB_h4, asN_eq, h4_1, h4_2] <;> intros <;> omega⟩ (by show s.fs.l.length - (i + 1) < s.fs.l.length - i; omega) (by kernel_rfl) (by kernel_rfl) hl
                                  · refine Ev.reW 92 ((i + 1 : Nat) : Int) hMz (by kernel_rfl) (by omega) (by omega) ?_
                                    exact Ev.againS hI4 (i + 1) [0, 1] [2] ⟨hi', by clear hI1 hI2 hI3 hI4 he hr; rw [hn]; simp_all [asB_h4, asN_eq, h4_1, h4_2] <;> intros <;> omega⟩ (by show s.fs.l.length - (i + 1) < s.fs.l.length - i; omega) (by kernel_rfl) (by kernel_rfl) hl
                            · have hid : id = (i : Int) := by simpa using h6
                              refine Ev.lookM (T := 62) (p := .map (some b)) (q := .int .i64 id) 164 (.bool (decide (id ∈ s.q.l))) hMz (by kernel_rfl) (fun w F => look_mp (Ev.fct F 2 (mfW s b s.q.l.length s.q.l) (by kernel_rfl)).1 id (by rw [hid]; exact wf_nat i (by omega))) ?_
                              refine Ev.split (!wt == decide (id ∈ s.q.l)) hMz (by kernel_rfl) (fun h15 => ?_) (fun h15 => ?_)
                              · exact Ev.retE () [] [] (he false (by clear hI1 hI2 hI3 hI4 he hr; rw [hn]; simp_all [asB_h4, asN_eq, h4_1, h4_2] <;> intros <;> omega)) (by kernel_rfl) hl trivial
                              · refine Ev.split (wt) hMz (by kernel_rfl) (fun h16 => ?_) (fun h16 => ?_)
                                · refine Ev.no (decide ¬ph = (2 : Int)) hMz (by kernel_rfl) h12 ?_
                                  refine Ev.reW 92 ((i + 1 : Nat) : Int) hMz (by kernel_rfl) (by omega) (by omega) ?_
                                  exact Ev.againS hI4 (i + 1) [0, 1] [2] ⟨hi', by clear hI1 hI2 hI3 hI4 he hr; rw [hn]; simp_all [asB_h4, asN_eq, h4_1, h4_2] <;> intros <;> omega⟩ (by show s.fs.l.length - (i + 1) < s.fs.l.length - i; omega) (by kernel_rfl) (by kernel_rfl) hl
                                · refine Ev.reW 92 ((i + 1 : Nat) : Int) hMz (by kernel_rfl) (by omega) (by omega) ?_
                                  exact Ev.againS hI4 (i + 1) [0, 1] [2] ⟨hi', by clear hI1 hI2 hI3 hI4 he hr; rw [hn]; simp_all [asB_h4, asN_eq, h4_1, h4_2] <;> intros <;> omega⟩ (by show s.fs.l.length - (i + 1) < s.fs.l.length - i; omega) (by kernel_rfl) (by kernel_rfl) hl
                      · refine Ev.idxA (y := 1) 0 1 3 0 4 1 hMz (by kernel_rfl) rfl (by decide) ?_
                        refine Ev.split (decide ((1 : Int) < ↑(Ytkjpbjgepnbibaa.h4 id s.hs.l).snd.fst)) hMz (by kernel_rfl) (fun h12 => ?_) (fun h12 => ?_)
                        · exact Ev.retE () [] [] (he false (by clear hI1 hI2 hI3 hI4 he hr; rw [hn]; simp_all [asB_h4, asN_eq, h4_1, h4_2] <;> intros <;> omega)) (by kernel_rfl) hl trivial
                        · refine Ev.idxA (y := 1) 0 1 3 0 4 1 hMz (by kernel_rfl) rfl (by decide) ?_
                          refine Ev.split (decide (↑(Ytkjpbjgepnbibaa.h4 id s.hs.l).snd.fst = (0 : Int))) hMz (by kernel_rfl) (fun h13 => ?_) (fun h13 => ?_)
                          · refine Ev.split (decide (ph < (5 : Int))) hMz (by kernel_rfl) (fun h14 => ?_) (fun h14 => ?_)
                            · exact Ev.retE () [] [] (he false (by clear hI1 hI2 hI3 hI4 he hr; rw [hn]; simp_all [asB_h4, asN_eq, h4_1, h4_2] <;> intros <;> omega)) (by kernel_rfl) hl trivial
                            · have hid : id = (i : Int) := by simpa using h6
                              refine Ev.lookM (T := 62) (p := .map (some b)) (q := .int .i64 id) 164 (.bool (decide (id ∈ s.q.l))) hMz (by kernel_rfl) (fun w F => look_mp (Ev.fct F 2 (mfW s b s.q.l.length s.q.l) (by kernel_rfl)).1 id (by rw [hid]; exact wf_nat i (by omega))) ?_
                              refine Ev.split (!wt == decide (id ∈ s.q.l)) hMz (by kernel_rfl) (fun h15 => ?_) (fun h15 => ?_)
                              · exact Ev.retE () [] [] (he false (by clear hI1 hI2 hI3 hI4 he hr; rw [hn]; simp_all [asB_h4, asN_eq, h4_1, h4_2] <;> intros <;> omega)) (by kernel_rfl) hl trivial
                              · refine Ev.split (wt) hMz (by kernel_rfl) (fun h16 => ?_) (fun h16 => ?_)
                                · refine Ev.split (decide ¬ph = (2 : Int)) hMz (by kernel_rfl) (fun h17 => ?_) (fun h17 => ?_)
                                  · exact Ev.retE () [] [] (he false (by clear hI1 hI2 hI3 hI4 he hr; rw [hn]; simp_all [asB_h4, asN_eq, h4_1, h4_2] <;> intros <;> omega)) (by kernel_rfl) hl trivial
                                  · refine Ev.reW 92 ((i + 1 : Nat) : Int) hMz (by kernel_rfl) (by omega) (by omega) ?_
                                    exact Ev.againS hI4 (i + 1) [0, 1] [2] ⟨hi', by clear hI1 hI2 hI3 hI4 he hr; rw [hn]; simp_all [asB_h4, asN_eq, h4_1, h4_2] <;> intros <;> omega⟩ (by show s.fs.l.length - (i + 1) < s.fs.l.length - i; omega) (by kernel_rfl) (by kernel_rfl) hl
                                · refine Ev.reW 92 ((i + 1 : Nat) : Int) hMz (by kernel_rfl) (by omega) (by omega) ?_
                                  exact Ev.againS hI4 (i + 1) [0, 1] [2] ⟨hi', by clear hI1 hI2 hI3 hI4 he hr; rw [hn]; simp_all [asB_h4, asN_eq, h4_1, h4_2] <;> intros <;> omega⟩ (by show s.fs.l.length - (i + 1) < s.fs.l.length - i; omega) (by kernel_rfl) (by kernel_rfl) hl
                          · have hid : id = (i : Int) := by simpa using h6
                            refine Ev.lookM (T := 62) (p := .map (some b)) (q := .int .i64 id) 164 (.bool (decide (id ∈ s.q.l))) hMz (by kernel_rfl) (fun w F => look_mp (Ev.fct F 2 (mfW s b s.q.l.length s.q.l) (by kernel_rfl)).1 id (by rw [hid]; exact wf_nat i (by omega))) ?_
                            refine Ev.split (!wt == decide (id ∈ s.q.l)) hMz (by kernel_rfl) (fun h14 => ?_) (fun h14 => ?_)
                            · exact Ev.retE () [] [] (he false (by clear hI1 hI2 hI3 hI4 he hr; rw [hn]; simp_all [asB_h4, asN_eq, h4_1, h4_2] <;> intros <;> omega)) (by kernel_rfl) hl trivial
                            · refine Ev.split (wt) hMz (by kernel_rfl) (fun h15 => ?_) (fun h15 => ?_)
                              · refine Ev.split (decide ¬ph = (2 : Int)) hMz (by kernel_rfl) (fun h16 => ?_) (fun h16 => ?_)
                                · exact Ev.retE () [] [] (he false (by clear hI1 hI2 hI3 hI4 he hr; rw [hn]; simp_all [asB_h4, asN_eq, h4_1, h4_2] <;> intros <;> omega)) (by kernel_rfl) hl trivial
                                · refine Ev.reW 92 ((i + 1 : Nat) : Int) hMz (by kernel_rfl) (by omega) (by omega) ?_
                                  exact Ev.againS hI4 (i + 1) [0, 1] [2] ⟨hi', by clear hI1 hI2 hI3 hI4 he hr; rw [hn]; simp_all [asB_h4, asN_eq, h4_1, h4_2] <;> intros <;> omega⟩ (by show s.fs.l.length - (i + 1) < s.fs.l.length - i; omega) (by kernel_rfl) (by kernel_rfl) hl
                              · refine Ev.reW 92 ((i + 1 : Nat) : Int) hMz (by kernel_rfl) (by omega) (by omega) ?_
                                exact Ev.againS hI4 (i + 1) [0, 1] [2] ⟨hi', by clear hI1 hI2 hI3 hI4 he hr; rw [hn]; simp_all [asB_h4, asN_eq, h4_1, h4_2] <;> intros <;> omega⟩ (by show s.fs.l.length - (i + 1) < s.fs.l.length - i; omega) (by kernel_rfl) (by kernel_rfl) hl
          · have hs := of_decide_eq_false hs
            have hi' : i = s.fs.l.length := by omega
            exact Ev.retE () [] [] (he true (by rw [hn, hi', List.drop_length]; rfl)) (by kernel_rfl) hl trivial
end Go.Proofs.Ytkjpbjgepnbibaa
