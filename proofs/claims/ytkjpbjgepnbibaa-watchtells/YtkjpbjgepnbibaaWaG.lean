/- One ask of a server: data, and what is told of it. -/
import Derived.Test.YtkjpbjgepnbibaaWaF
namespace Go.Proofs.Ytkjpbjgepnbibaa
open Go.RowKit
open Ev (SV vi Bx Sg Kg)
set_option maxRecDepth 100000

theorem eqI (w : World) (xs ys : Array Value) (i : Nat) (is : List Nat) (a b : Int) (r : Bool) (hx : xs[i * 1]? = some (.int .i64 a)) (hy : ys[i * 1]? = some (.int .i64 b)) (h : (Op.eqItems 9999 3 1 xs ys is).run Try.prog w = .ok r w) : (Op.eqItems 9999 3 1 xs ys (i :: is)).run Try.prog w = .ok (a == b && r) w := by
  have hp : Try.prog.plainKey 3 = true := by kernel_rfl
  have he := run_equalIn_int (P := Try.prog) w 9998 3 .i64 .i64 a b Try.underlying3
  simp only [Op.eqItems, Sem.run_bind, run_part_plain w hp hx, run_part_plain w hp hy, Result.andThen_ok, he]
  cases hb : (a == b) <;> simp [h]
theorem eqA (w : World) (a0 a1 a2 a3 b0 b1 b2 b3 : Int) : (Op.equal 28 (.agg #[.int .i64 a0, .int .i64 a1, .int .i64 a2, .int .i64 a3]) (.agg #[.int .i64 b0, .int .i64 b1, .int .i64 b2, .int .i64 b3])).run Try.prog w = .ok (a0 == b0 && (a1 == b1 && (a2 == b2 && (a3 == b3 && true)))) w := by
  obtain ⟨i, hi⟩ := Option.isSome_iff_exists.1 (show (Try.prog.info? 3).isSome = true by kernel_rfl)
  have hc : Try.prog.cellsOf 3 = 1 := by kernel_rfl
  have h := run_equalIn_array (P := Try.prog) w 9999 (t := 28) (e := 3) (n := 4) (i := i) #[.int .i64 a0, .int .i64 a1, .int .i64 a2, .int .i64 a3] #[.int .i64 b0, .int .i64 b1, .int .i64 b2, .int .i64 b3] (by kernel_rfl) hi
  unfold Op.equal Op.maxDepth
  rw [h, hc]
  exact eqI w _ _ 0 [1, 2, 3] a0 b0 _ rfl rfl (eqI w _ _ 1 [2, 3] a1 b1 _ rfl rfl (eqI w _ _ 2 [3] a2 b2 _ rfl rfl (eqI w _ _ 3 [] a3 b3 _ rfl rfl rfl)))
noncomputable def fld (i : Nat) : Field := (Try.prog.fieldsOf 40).toList.getD i ⟨"", 0, 0, false, "", "", 0⟩
theorem eqM (w : World) (a0 a1 a2 b0 b1 b2 : Int) : (Op.equal 40 (.agg #[.int .i64 a0, .int .i64 a1, .int .i64 a2]) (.agg #[.int .i64 b0, .int .i64 b1, .int .i64 b2])).run Try.prog w = .ok (a0 == b0 && (a1 == b1 && a2 == b2)) w := by
  have hp : Try.prog.plainKey 3 = true := by kernel_rfl
  have he : ∀ a b : Int, (Op.equalIn 9999 3 (.int .i64 a) (.int .i64 b)).run Try.prog w = .ok (a == b) w := fun a b => run_equalIn_int (P := Try.prog) w 9998 3 .i64 .i64 a b Try.underlying3
  have p : ∀ (xs : Array Value) (i : Nat) v, xs[i]? = some v → (part 3 xs i).run Try.prog w = .ok v w := fun xs i v hx => run_part_plain w hp hx
  have pf : ∀ f : Field, f.type = 3 → (∀ (xs : Array Value) (i : Nat) v, xs[i]? = some v → (part f.type xs i).run Try.prog w = .ok v w) ∧ ∀ a b : Int, (Op.equalIn 9999 f.type (.int .i64 a) (.int .i64 b)).run Try.prog w = .ok (a == b) w := fun f hf => by rw [hf]; exact ⟨p, he⟩
  have e : Try.prog.fieldsOf 40 = #[fld 0, fld 1, fld 2] := by kernel_rfl
  have t : ∀ i, i < 3 → (fld i).type = 3 ∧ (fld i).offset = i ∧ (fld i).name ≠ "_" := fun i hi => by
    have n0 : (fld 0).name = "ID" := by kernel_rfl
    have n1 : (fld 1).name = "Filter" := by kernel_rfl
    have n2 : (fld 2).name = "Call" := by kernel_rfl
    match i, hi with
    | 0, _ => exact ⟨by kernel_rfl, by kernel_rfl, by rw [n0]; decide⟩
    | 1, _ => exact ⟨by kernel_rfl, by kernel_rfl, by rw [n1]; decide⟩
    | 2, _ => exact ⟨by kernel_rfl, by kernel_rfl, by rw [n2]; decide⟩
  have h := run_equalIn_struct (P := Try.prog) w 9999 40 #[.int .i64 a0, .int .i64 a1, .int .i64 a2] #[.int .i64 b0, .int .i64 b1, .int .i64 b2] (by kernel_rfl) (by kernel_rfl)
  unfold Op.equal Op.maxDepth
  rw [h, e]
  obtain ⟨t0, o0, n0⟩ := t 0 (by decide)
  obtain ⟨t1, o1, n1⟩ := t 1 (by decide)
  obtain ⟨t2, o2, n2⟩ := t 2 (by decide)
  generalize fld 0 = f0 at *
  generalize fld 1 = f1 at *
  generalize fld 2 = f2 at *
  obtain ⟨q0, g0⟩ := pf f0 t0
  obtain ⟨q1, g1⟩ := pf f1 t1
  obtain ⟨q2, g2⟩ := pf f2 t2
  clear pf p he t0 t1 t2 h hp t
  simp only [Op.eqFields, n0, n1, n2, o0, o1, o2, ne_eq, not_false_eq_true, if_true, Sem.run_bind, Sem.run_ite, Sem.run_pure, Result.andThen_ok, q0 #[.int .i64 a0, .int .i64 a1, .int .i64 a2] 0 (.int .i64 a0) rfl, q0 #[.int .i64 b0, .int .i64 b1, .int .i64 b2] 0 (.int .i64 b0) rfl, q1 #[.int .i64 a0, .int .i64 a1, .int .i64 a2] 1 (.int .i64 a1) rfl, q1 #[.int .i64 b0, .int .i64 b1, .int .i64 b2] 1 (.int .i64 b1) rfl, q2 #[.int .i64 a0, .int .i64 a1, .int .i64 a2] 2 (.int .i64 a2) rfl, q2 #[.int .i64 b0, .int .i64 b1, .int .i64 b2] 2 (.int .i64 b2) rfl, g0, g1, g2]
  cases (a0 == b0) <;> cases (a1 == b1) <;> cases (a2 == b2) <;> rfl
/-- What is held, and right; of one ask. -/
def ho3 (ph : Int) (a b : Nat) : Bool := !(decide (1 < b) || decide (b = 1) && decide (ph ≠ 2)) && (decide (a = 1) || decide (a = 0) && decide (5 ≤ ph))
def hoB (ph : Int) (n : Nat × Nat × Nat × Nat) : Bool := ho3 ph n.2.1 n.2.2.1
def asB (f : Fx) (n : Nat × Nat × Nat × Nat) (q : Bool) : Bool := if f.ph < 1 ∨ 6 < f.ph then false else if f.ph = 6 then decide (n = (0, 0, 0, 0)) && (!f.wt && decide (f.st ≠ 0)) else hoB f.ph n && ((f.wt == q) && (!f.wt || decide (f.ph = 2)))
def kHolds : Kg (Int × (Nat × Nat × Nat × Nat)) Unit := ⟨21, fun x => [.int .i64 x.1, .agg (v4 x.2).toArray], fun _ => [], fun _ => True, fun x _ => .bool (hoB x.1 x.2), fun _ _ => [], fun _ _ => True⟩
def kAskR : Kg (Fx × (Nat × Nat × Nat × Nat) × Bool) Unit := ⟨17, fun x => [.agg x.1.l.toArray, .agg (v4 x.2.1).toArray, .bool x.2.2], fun _ => [], fun _ => True, fun x _ => .bool (asB x.1 x.2.1 x.2.2), fun _ _ => [], fun _ _ => True⟩
theorem kHolds_ok : Ev.Spec Try.prog kHolds.sg := by
  refine Ev.spec 31 hMz Try.func21 (by kernel_rfl) fun ⟨ph, n0, n1, n2, n3⟩ hx bs w hl => ?_
  have he : ∀ r, hoB ph (n0, n1, n2, n3) = r → kHolds.sg.out (ph, n0, n1, n2, n3) () = [] ∧ kHolds.sg.res (ph, n0, n1, n2, n3) () = .val (.bool r) ∧ kHolds.sg.post (ph, n0, n1, n2, n3) () = [] := fun r e => by subst e; exact ⟨rfl, rfl, rfl⟩
  refine Ev.idxA (y := 2) 0 2 0 0 4 1 hMz (by kernel_rfl) rfl (by decide) ?_
  refine Ev.idxA (y := 1) 2 1 0 0 4 1 hMz (by kernel_rfl) rfl (by decide) ?_
  refine Ev.split (decide ((1 : Int) < ↑n2)) hMz (by kernel_rfl) (fun h1 => ?_) (fun h1 => ?_)
  · exact Ev.retE () [] [] (he false (by clear he; simp_all [hoB, ho3] <;> omega)) (by kernel_rfl) hl trivial
  · refine Ev.split (decide (↑n2 = (1 : Int))) hMz (by kernel_rfl) (fun h2 => ?_) (fun h2 => ?_)
    · refine Ev.split (decide ¬ph = (2 : Int)) hMz (by kernel_rfl) (fun h3 => ?_) (fun h3 => ?_)
      · exact Ev.retE () [] [] (he false (by clear he; simp_all [hoB, ho3] <;> omega)) (by kernel_rfl) hl trivial
      · refine Ev.split (decide (↑n1 = (1 : Int))) hMz (by kernel_rfl) (fun h4 => ?_) (fun h4 => ?_)
        · exact Ev.retE () [] [] (he true (by clear he; simp_all [hoB, ho3] <;> omega)) (by kernel_rfl) hl trivial
        · refine Ev.split (decide (↑n1 = (0 : Int))) hMz (by kernel_rfl) (fun h5 => ?_) (fun h5 => ?_)
          · exact Ev.retE () [] [] (he (decide ((5 : Int) ≤ ph)) (by clear he; simp_all [hoB, ho3] <;> omega)) (by kernel_rfl) hl trivial
          · exact Ev.retE () [] [] (he false (by clear he; simp_all [hoB, ho3] <;> omega)) (by kernel_rfl) hl trivial
    · refine Ev.split (decide (↑n1 = (1 : Int))) hMz (by kernel_rfl) (fun h3 => ?_) (fun h3 => ?_)
      · exact Ev.retE () [] [] (he true (by clear he; simp_all [hoB, ho3] <;> omega)) (by kernel_rfl) hl trivial
      · refine Ev.split (decide (↑n1 = (0 : Int))) hMz (by kernel_rfl) (fun h4 => ?_) (fun h4 => ?_)
        · exact Ev.retE () [] [] (he (decide ((5 : Int) ≤ ph)) (by clear he; simp_all [hoB, ho3] <;> omega)) (by kernel_rfl) hl trivial
        · exact Ev.retE () [] [] (he false (by clear he; simp_all [hoB, ho3] <;> omega)) (by kernel_rfl) hl trivial
theorem kAskR_ok : Ev.Spec Try.prog kAskR.sg := by
  refine Ev.spec 54 hMz Try.func17 (by kernel_rfl) fun ⟨⟨id, ph, po, a0, a1, a2, a3, st, b1, b2, b3, p0, p1, p2, wt, fa⟩, ⟨n0, n1, n2, n3⟩, q⟩ hx bs w hl => ?_
  obtain ⟨f, hf⟩ : ∃ f, f = Fx.mk id ph po a0 a1 a2 a3 st b1 b2 b3 p0 p1 p2 wt fa := ⟨_, rfl⟩
  have he : ∀ r, asB f (n0, n1, n2, n3) q = r → kAskR.sg.out (⟨id, ph, po, a0, a1, a2, a3, st, b1, b2, b3, p0, p1, p2, wt, fa⟩, (n0, n1, n2, n3), q) () = [] ∧ kAskR.sg.res (⟨id, ph, po, a0, a1, a2, a3, st, b1, b2, b3, p0, p1, p2, wt, fa⟩, (n0, n1, n2, n3), q) () = .val (.bool r) ∧ kAskR.sg.post (⟨id, ph, po, a0, a1, a2, a3, st, b1, b2, b3, p0, p1, p2, wt, fa⟩, (n0, n1, n2, n3), q) () = [] := fun r e => by subst e; subst hf; exact ⟨rfl, rfl, rfl⟩
  refine Ev.split (decide (ph < (1 : Int))) hMz (by kernel_rfl) (fun h1 => ?_) (fun h1 => ?_)
  · exact Ev.retE () [] [] (he (false) (by clear he; simp_all [asB] <;> omega)) (by kernel_rfl) hl trivial
  · refine Ev.split (decide ((6 : Int) < ph)) hMz (by kernel_rfl) (fun h2 => ?_) (fun h2 => ?_)
    · exact Ev.retE () [] [] (he (false) (by clear he; simp_all [asB] <;> omega)) (by kernel_rfl) hl trivial
    · refine Ev.split (decide (ph = (6 : Int))) hMz (by kernel_rfl) (fun h3 => ?_) (fun h3 => ?_)
      · refine Ev.bld0 21 [.int .i64 0, .int .i64 0, .int .i64 0, .int .i64 0] hMz (by kernel_rfl) ?_
        refine Ev.eqv (ne := false) (T := 28) (p := .agg #[.int .i64 (n0 : Int), .int .i64 (n1 : Int), .int .i64 (n2 : Int), .int .i64 (n3 : Int)]) (q := .agg #[.int .i64 0, .int .i64 0, .int .i64 0, .int .i64 0]) 22 ((n0 : Int) == 0 && ((n1 : Int) == 0 && ((n2 : Int) == 0 && ((n3 : Int) == 0 && true)))) hMz (by kernel_rfl) ⟨⟨_, rfl⟩, _, rfl⟩ (fun w => eqA w _ _ _ _ _ _ _ _) ?_
        refine Ev.split (false ^^ ↑n0 == (0 : Int) && (↑n1 == (0 : Int) && (↑n2 == (0 : Int) && (↑n3 == (0 : Int) && true)))) hMz (by kernel_rfl) (fun h4 => ?_) (fun h4 => ?_)
        · refine Ev.split (!wt) hMz (by kernel_rfl) (fun h5 => ?_) (fun h5 => ?_)
          · exact Ev.retE () [] [] (he ((decide ¬st = (0 : Int))) (by clear he; simp_all [asB] <;> omega)) (by kernel_rfl) hl trivial
          · exact Ev.retE () [] [] (he (false) (by clear he; simp_all [asB] <;> omega)) (by kernel_rfl) hl trivial
        · exact Ev.retE () [] [] (he (false) (by clear he; simp_all [asB] <;> omega)) (by kernel_rfl) hl trivial
      · refine Ev.callC kHolds_ok (ph, n0, n1, n2, n3) [] [] hMz (by kernel_rfl) trivial fun _ _ => ?_
        refine Ev.split (hoB ph (n0, n1, n2, n3)) hMz (by kernel_rfl) (fun h4 => ?_) (fun h4 => ?_)
        · refine Ev.split (wt == q) hMz (by kernel_rfl) (fun h5 => ?_) (fun h5 => ?_)
          · refine Ev.split (!wt) hMz (by kernel_rfl) (fun h6 => ?_) (fun h6 => ?_)
            · exact Ev.retE () [] [] (he (true) (by clear he; simp_all [asB] <;> omega)) (by kernel_rfl) hl trivial
            · exact Ev.retE () [] [] (he ((decide (ph = (2 : Int)))) (by clear he; simp_all [asB] <;> omega)) (by kernel_rfl) hl trivial
          · exact Ev.retE () [] [] (he (false) (by clear he; simp_all [asB] <;> omega)) (by kernel_rfl) hl trivial
        · exact Ev.retE () [] [] (he (false) (by clear he; simp_all [asB] <;> omega)) (by kernel_rfl) hl trivial
end Go.Proofs.Ytkjpbjgepnbibaa
