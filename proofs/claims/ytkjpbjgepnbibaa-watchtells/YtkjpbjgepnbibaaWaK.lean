/- Whether a server is right, as the document says it: data. -/
import Derived.Test.YtkjpbjgepnbibaaWaJ
namespace Go.Proofs.Ytkjpbjgepnbibaa
open Go.RowKit Go.Maps
open Ev (SV vi Bx Sg Kg)
set_option maxRecDepth 100000

def k4 (l : List T3) : Nat × Nat × Nat × Nat := (cntK 0 l, cntK 1 l, cntK 2 l, cntK 3 l)
theorem k4_take {l : List T3} {i : Nat} (hi : i < l.length) : k4 (l.take (i + 1)) = (cntK 0 (l.take i) + (if l[i].b = 0 then 1 else 0), cntK 1 (l.take i) + (if l[i].b = 1 then 1 else 0), cntK 2 (l.take i) + (if l[i].b = 2 then 1 else 0), cntK 3 (l.take i) + (if l[i].b = 3 then 1 else 0)) := by
  unfold k4
  rw [cntK_take hi, cntK_take hi, cntK_take hi, cntK_take hi]
theorem k4_le (l : List T3) : In4 (k4 l) l.length := ⟨cntK_le _ _, cntK_le _ _, cntK_le _ _, cntK_le _ _⟩
/-- Who waits, as a map. -/
def mpF (D : DataW Unit) (p : List Int) : DataW Unit := p.foldl (fun D x => D.put (.int .i64 x) (.lit (.bool true))) D
def mpD (p : List Int) : DataW Unit := mpF (.map []) p
theorem mpD_snoc (p : List Int) (x : Int) : mpD (p ++ [x]) = (mpD p).put (.int .i64 x) (.lit (.bool true)) := by
  unfold mpD mpF
  rw [List.foldl_append]
  rfl
def WfL (p : List Int) : Prop := ∀ x ∈ p, (Lit.int .i64 x).wf = true
theorem keyLit (x : Int) : WideAt.IsKeyLit (Lit.int .i64 x) := by
  first | exact trivial | exact rfl | (unfold WideAt.IsKeyLit; trivial)
theorem mpF_at (x : Int) : ∀ (p : List Int) (D : DataW Unit), IsMap D → (mpF D p).atKey (.int .i64 x) (.lit (.bool false)) = if x ∈ p then .lit (.bool true) else D.atKey (.int .i64 x) (.lit (.bool false))
  | [], D, _ => by simp [mpF]
  | y :: r, D, hD => by
    have ih := mpF_at x r (D.put (.int .i64 y) (.lit (.bool true))) (hD.put _ _)
    show (mpF (D.put (.int .i64 y) (.lit (.bool true))) r).atKey (.int .i64 x) (.lit (.bool false)) = _
    rw [ih]
    by_cases h : x = y
    · subst h
      rw [atKey_put_same hD (keyLit x)]
      simp
    · rw [atKey_put_other (by simp [h])]
      by_cases hr : x ∈ r
      · simp [hr]
      · simp [hr, h]
theorem mpD_at (p : List Int) (x : Int) : (mpD p).atKey (.int .i64 x) (.lit (.bool false)) = .lit (.bool (decide (x ∈ p))) := by
  unfold mpD
  rw [mpF_at x p _ isMap_empty]
  by_cases h : x ∈ p
  · simp [h]
  · simp only [h, if_false, decide_false]
    rfl
theorem mpF_tidy : ∀ (p : List Int) (D : DataW Unit), Tidy D → Tidy (mpF D p) ∧ size D ≤ size (mpF D p)
  | [], D, h => ⟨h, Nat.le_refl _⟩
  | y :: r, D, h => by
    obtain ⟨h1, h2⟩ := mpF_tidy r (D.put (.int .i64 y) (.lit (.bool true))) (h.put (keyLit y) _)
    have h3 := size_put (k := .int .i64 y) h (.lit (.bool true))
    refine ⟨h1, Nat.le_trans ?_ h2⟩
    rw [h3]
    split <;> omega
theorem mpD_size (p : List Int) : decide ((0 : Int) < ((size (mpD p) : Nat) : Int)) = decide (¬ (p.length : Int) = 0) := by
  cases p with
  | nil => rfl
  | cons y r =>
    have h2 := (mpF_tidy r ((DataW.map [] : DataW Unit).put (.int .i64 y) (.lit (.bool true))) (tidy_empty.put (keyLit y) _)).2
    have h3 := size_put (k := .int .i64 y) (tidy_empty (H := Unit)) (.lit (.bool true))
    have h4 : 0 < size (mpD (y :: r)) := by
      refine Nat.lt_of_lt_of_le ?_ h2
      rw [h3]
      have : has (DataW.map [] : DataW Unit) (.int .i64 y) = false := rfl
      rw [this]
      simp [size]
    have h5 : ((y :: r).length : Int) ≠ 0 := by rw [List.length_cons]; omega
    simp only [h5, not_false_eq_true, decide_true]
    exact decide_eq_true (by omega)
def mfW (s : Srv) (b n : Nat) (p : List Int) : Ev.Mf := Ev.mfMp Try.prog 3 (plainElem Try.prog 4) [mfH s, mfQ s, mfF s] b n (mpD p)
theorem look_mp {w : World} {b n : Nat} {p : List Int} (h : w.ownsMap Try.prog 3 (plainElem Try.prog 4) b n (mpD p)) (x : Int) (hx : (Lit.int .i64 x).wf = true) : (Instr.lookup 62 (.map (some b)) (.int .i64 x) false).run Try.prog w = .ok (.bool (decide (x ∈ p))) w := by
  obtain ⟨v, ps, hr, hv⟩ := h.lookup (int_keyed Try.underlying3) Try.underlying62 (z := .bool false) (by kernel_rfl) (plainElem_bool Try.underlying4 false) (keyOf_int_mk Try.underlying3 hx)
  rw [mpD_at] at hv
  rw [hr]
  unfold plainElem at hv
  rw [Try.underlying4] at hv
  cases v <;> simp at hv
  rw [hv.1]
theorem len_mp {w : World} {b n : Nat} {p : List Int} (h : w.ownsMap Try.prog 3 (plainElem Try.prog 4) b n (mpD p)) (ty : TypeId) : (Builtin.len_ #[62] ty #[.map (some b)]).run Try.prog w = .ok (.int .i64 ((size (mpD p) : Nat) : Int)) w := h.len Try.underlying62 ty
def kRightR : Kg Srv Unit := ⟨9, fun s => [.agg (srL s).toArray], fun s => [mfH s, mfQ s, mfF s], fun s => Fit s ∧ WfL s.q.l, fun s _ => .bool (rightB s), fun _ _ => [], fun _ _ => True⟩
def rrA (s : Srv) (y : Nat × Nat × Nat × Nat × Nat) : Ev.SS := ⟨[(1, .ptr 0 0), (3, .ptr 1 0), (17, .val s.hs.v), (18, vi (s.hs.l.length : Int)), (19, vi (y.1 : Int))], [.cells ((srL s).map .val), .cells (c4 y.2)], [mfH s, mfQ s, mfF s]⟩
def rrB (s : Srv) (k : Int) : Ev.SS := ⟨[(1, .ptr 0 0), (3, .ptr 1 0), (6, vi k)], [.cells ((srL s).map .val), .cells (c4 (k4 s.hs.l))], [mfH s, mfQ s, mfF s]⟩
def rrC (s : Srv) (b : Nat) (i : Nat) : Ev.SS := ⟨[(1, .ptr 0 0), (3, .ptr 1 0), (7, .val (.map (some b))), (55, .val s.q.v), (56, vi (s.q.l.length : Int)), (57, vi (i : Int))], [.cells ((srL s).map .val), .cells (c4 (k4 s.hs.l))], [mfW s b i (s.q.l.take i)]⟩
def rrD (s : Srv) (b : Nat) (i : Nat) : Ev.SS := ⟨[(1, .ptr 0 0), (3, .ptr 1 0), (7, .val (.map (some b))), (90, .val s.fs.v), (91, vi (s.fs.l.length : Int)), (92, vi (i : Int))], [.cells ((srL s).map .val), .cells (c4 (k4 s.hs.l))], [mfW s b s.q.l.length s.q.l]⟩
end Go.Proofs.Ytkjpbjgepnbibaa
