/- Which asks are in the queue; what each one holds. -/
import Derived.Test.YtkjpbjgepnbibaaWaH
namespace Go.Proofs.Ytkjpbjgepnbibaa
open Go.RowKit
open Ev (SV vi Bx Sg Kg)
set_option maxRecDepth 100000

theorem set_map {f g : Nat → Value} {m p : Nat} (hp : p < m) (h : ∀ j, j < m → j ≠ p → g j = f j) : ((List.range m).map f).take p ++ [g p] ++ ((List.range m).map f).drop (p + 1) = (List.range m).map g := by
  have e : ((List.range m).map f).take p ++ [g p] ++ ((List.range m).map f).drop (p + 1) = ((List.range m).map f).set p (g p) := by
    rw [List.set_eq_take_append_cons_drop, if_pos (by simpa using hp)]
    simp
  rw [e]
  apply List.ext_getElem
  · simp
  · intro i h1 h2
    have hi : i < m := by simpa using h2
    rw [List.getElem_set]
    split
    next e => subst e; simp
    next e =>
      simp only [List.getElem_map, List.getElem_range]
      exact (h i hi (fun e' => e e'.symm)).symm
theorem at_map {f : Nat → Value} {m p : Nat} (hp : p < m) : ((List.range m).map f)[p]? = some (f p) := by
  rw [List.getElem?_map, List.getElem?_range hp]
  rfl
/-- Which asks are in the queue. -/
def boL (n : Nat) (p : List Int) : List Value := (List.range n).map fun (j : Nat) => .bool (decide ((j : Int) ∈ p))
theorem boL_at (n : Nat) (p : List Int) (x : Int) (h0 : 0 ≤ x) (hn : x < (n : Int)) : (boL n p)[x.toNat * 1]? = some (.bool (decide (x ∈ p))) := by
  have h := at_map (f := fun (j : Nat) => Value.bool (decide ((j : Int) ∈ p))) (m := n) (p := x.toNat) (by omega)
  rw [show ((x.toNat : Nat) : Int) = x by omega] at h
  rw [Nat.mul_one]
  exact h
theorem boL_set (n : Nat) (p : List Int) (x : Int) (h0 : 0 ≤ x) (hn : x < (n : Int)) : (boL n p).take (x.toNat * 1) ++ [.bool true] ++ (boL n p).drop (x.toNat * 1 + 1) = boL n (p ++ [x]) := by
  rw [Nat.mul_one]
  have h := set_map (f := fun (j : Nat) => Value.bool (decide ((j : Int) ∈ p))) (g := fun (j : Nat) => Value.bool (decide ((j : Int) ∈ p ++ [x]))) (m := n) (p := x.toNat) (by omega) (fun j hj hne => by
    have hx : ¬ (j : Int) = x := by omega
    simp [hx])
  rw [show ((x.toNat : Nat) : Int) = x by omega] at h
  simp only [List.mem_append, List.mem_singleton, or_true, decide_true] at h
  unfold boL
  simp only [List.mem_append, List.mem_singleton]
  exact h
theorem boL_nil (n : Nat) : (List.replicate n [Value.bool false]).flatten = boL n [] := by
  unfold boL
  induction n with
  | zero => rfl
  | succ n ih => rw [List.replicate_succ', List.flatten_append, ih, List.range_succ, List.map_append]; rfl
theorem boL_len (n : Nat) (p : List Int) : (boL n p).length = n := by simp [boL]
def okQ (n : Nat) (p : List Int) : List Int → Bool
  | [] => true
  | x :: r => (decide (0 ≤ x) && (decide (x < (n : Int)) && !decide (x ∈ p))) && okQ n (p ++ [x]) r
def quS : Sg Srv Bool := ⟨13, 0, fun s => [.val (.agg (srL s).toArray)], fun _ => [], fun s => [mfQ s], fun s => Fit s, fun s y => match y with | true => .tup [.row 0 s.fs.l.length, .bit true] | false => .tup [.val (.slice none 0 0), .bit false], fun s y => match y with | true => [.row 4 1 s.fs.l.length (boL s.fs.l.length s.q.l)] | false => [], fun _ _ => [], fun s y => y = okQ s.fs.l.length [] s.q.l⟩
def quF (s : Srv) (i : Nat) : Ev.SS := ⟨[(4, .row 0 s.fs.l.length), (13, .val s.q.v), (14, vi (s.q.l.length : Int)), (15, vi (i : Int))], [.row 4 1 s.fs.l.length (boL s.fs.l.length (s.q.l.take i))], [mfQ s]⟩
/-- What each ask holds. -/
def heL (n : Nat) (l : List T3) : List Value := (List.range (n * 4)).map fun (j : Nat) => .int .i64 ((cntH ((j / 4 : Nat) : Int) ((j % 4 : Nat) : Int) l : Nat) : Int)
theorem heL_at (n : Nat) (l : List T3) (x : Int) (k : Nat) (hk : k < 4) (h0 : 0 ≤ x) (hn : x < (n : Int)) : (heL n l)[x.toNat * 4 + k * 1]? = some (.int .i64 ((cntH x (k : Int) l : Nat) : Int)) := by
  have h := at_map (f := fun (j : Nat) => Value.int .i64 ((cntH ((j / 4 : Nat) : Int) ((j % 4 : Nat) : Int) l : Nat) : Int)) (m := n * 4) (p := x.toNat * 4 + k * 1) (by omega)
  rw [show (x.toNat * 4 + k * 1) / 4 = x.toNat by omega, show (x.toNat * 4 + k * 1) % 4 = k by omega, show ((x.toNat : Nat) : Int) = x by omega] at h
  exact h
theorem cntH_snoc (id k : Int) (l : List T3) (x : T3) : cntH id k (l ++ [x]) = cntH id k l + if x.a = id ∧ x.b = k then 1 else 0 := by
  unfold cntH
  rw [List.countP_append]
  simp [List.countP_cons]
theorem heL_set (n : Nat) (l : List T3) (x : T3) (k : Nat) (hk : k < 4) (hb : x.b = (k : Int)) (h0 : 0 ≤ x.a) (hn : x.a < (n : Int)) : (heL n l).take (x.a.toNat * 4 + k * 1) ++ [.int .i64 ((cntH x.a (k : Int) l + 1 : Nat) : Int)] ++ (heL n l).drop (x.a.toNat * 4 + k * 1 + 1) = heL n (l ++ [x]) := by
  have h := set_map (f := fun (j : Nat) => Value.int .i64 ((cntH ((j / 4 : Nat) : Int) ((j % 4 : Nat) : Int) l : Nat) : Int)) (g := fun (j : Nat) => Value.int .i64 ((cntH ((j / 4 : Nat) : Int) ((j % 4 : Nat) : Int) (l ++ [x]) : Nat) : Int)) (m := n * 4) (p := x.a.toNat * 4 + k * 1) (by omega) (fun j hj hne => by
    rw [cntH_snoc, if_neg (by omega), Nat.add_zero])
  rw [cntH_snoc, show (x.a.toNat * 4 + k * 1) / 4 = x.a.toNat by omega, show (x.a.toNat * 4 + k * 1) % 4 = k by omega, show ((x.a.toNat : Nat) : Int) = x.a by omega, if_pos ⟨rfl, hb⟩] at h
  exact h
theorem heL_other (n : Nat) (l : List T3) (x : T3) (h : ¬ (0 ≤ x.a ∧ x.a < (n : Int) ∧ 0 ≤ x.b ∧ x.b ≤ 3)) : heL n (l ++ [x]) = heL n l := by
  unfold heL
  apply List.map_congr_left
  intro j hj
  have hj := List.mem_range.1 hj
  rw [cntH_snoc, if_neg (by omega), Nat.add_zero]
theorem heL_nil (n : Nat) : (List.replicate n [Value.int .i64 0, Value.int .i64 0, Value.int .i64 0, Value.int .i64 0]).flatten = heL n [] := by
  unfold heL
  induction n with
  | zero => rfl
  | succ n ih => rw [List.replicate_succ', List.flatten_append, ih, show (n + 1) * 4 = n * 4 + 1 + 1 + 1 + 1 by omega, List.range_succ, List.range_succ, List.range_succ, List.range_succ]; simp [cntH]
theorem heL_len (n : Nat) (l : List T3) : (heL n l).length = n * 4 := by simp [heL]
def heS : Sg Srv Unit := ⟨16, 0, fun s => [.val (.agg (srL s).toArray)], fun _ => [], fun s => [mfH s], fun s => Fit s, fun s _ => .row 0 s.fs.l.length, fun s _ => [.row 28 4 s.fs.l.length (heL s.fs.l.length s.hs.l)], fun _ _ => [], fun _ _ => True⟩
def heF (s : Srv) (i : Nat) : Ev.SS := ⟨[(3, .row 0 s.fs.l.length), (13, .val s.hs.v), (14, vi (s.hs.l.length : Int)), (15, vi (i : Int))], [.row 28 4 s.fs.l.length (heL s.fs.l.length (s.hs.l.take i))], [mfH s]⟩
theorem quS_ok : Ev.Spec Try.prog quS := by
  refine Ev.spec 38 hMz Try.func13 (by kernel_rfl) fun s hx bs w hl => ?_
  have hx : Fit s := hx
  have hq := hx.q
  have hf := hx.f
  refine Ev.mkW (y := (s.fs.l.length : Int)) (zs := [.bool false]) s.fs.l.length 1 (boL s.fs.l.length []) hMz (by kernel_rfl) rfl (by kernel_rfl) (by omega) (by omega) (boL_nil _) ?_
  refine Ev.loopS (fun i => i ≤ s.q.l.length ∧ okQ s.fs.l.length [] s.q.l = okQ s.fs.l.length (s.q.l.take i) (s.q.l.drop i)) (fun i => s.q.l.length - i) (quF s) 0 [1] [0] hMz ⟨Nat.zero_le _, rfl⟩ (by kernel_rfl) hl fun i hi I hI => ?_
  obtain ⟨hi, hn⟩ := hi
  refine Ev.split (decide ((i : Int) < (s.q.l.length : Int))) hMz (by kernel_rfl) (fun hs => ?_) (fun hs => ?_)
  · have hs := of_decide_eq_true hs
    have hi' : i < s.q.l.length := by omega
    have ht := take_at hi'
    rw [List.drop_eq_getElem_cons hi', okQ, ← ht] at hn
    refine Ev.learn (p := ∃ b off, s.q.o = some ⟨b, off, none⟩) 0 (mfQ s) (by kernel_rfl) (fun w h => rows_o h hi') fun ⟨b, off, ho⟩ => ?_
    refine Ev.idx (y := (i : Int)) (ao := s.q.o) (m := s.q.l.length) (m' := s.q.l.length) (cc := s.q.c) 17 i b off 1 hMz (by kernel_rfl) rfl ho rfl hi' ?_
    refine Ev.ld1 (b := b) (off := off + i * 1) 18 (.int .i64 s.q.l[i]) hMz (by kernel_rfl) (fun w F => rows_at (Ev.fct F 0 (mfQ s) (by kernel_rfl)) hi' ho 0 _ rfl) ?_
    generalize s.q.l[i] = x at hn ht ⊢
    refine Ev.split (decide (x < (0 : Int))) hMz (by kernel_rfl) (fun h1 => ?_) (fun h1 => ?_)
    · exact Ev.ret false [] [] (by kernel_rfl) hl (by show false = okQ s.fs.l.length [] s.q.l; clear hI; rw [hn]; simp_all <;> intros <;> omega)
    · refine Ev.split (decide (↑s.fs.l.length ≤ x)) hMz (by kernel_rfl) (fun h2 => ?_) (fun h2 => ?_)
      · exact Ev.ret false [] [] (by kernel_rfl) hl (by show false = okQ s.fs.l.length [] s.q.l; clear hI; rw [hn]; simp_all <;> intros <;> omega)
      · have g0 := of_decide_eq_false h1
        have g1 := of_decide_eq_false h2
        refine Ev.idxR (k := 0) (y := x) 30 x.toNat s.fs.l.length 1 hMz (by kernel_rfl) (by omega) (by omega) ?_
        refine Ev.ldW (q := 0) (k := 0) (off := x.toNat * 1) (l := boL s.fs.l.length (s.q.l.take i)) (.bool (decide (x ∈ s.q.l.take i))) hMz (by kernel_rfl) (.inl ⟨rfl, boL_at _ _ _ (by omega) (by omega)⟩) ?_
        refine Ev.split (decide (x ∈ List.take i s.q.l)) hMz (by kernel_rfl) (fun h3 => ?_) (fun h3 => ?_)
        · exact Ev.ret false [] [] (by kernel_rfl) hl (by show false = okQ s.fs.l.length [] s.q.l; clear hI; rw [hn]; simp_all <;> intros <;> omega)
        · have g0 := of_decide_eq_false h1
          have g1 := of_decide_eq_false h2
          refine Ev.idxR (k := 0) (y := x) 30 x.toNat s.fs.l.length 1 hMz (by kernel_rfl) (by omega) (by omega) ?_
          refine Ev.stW (k := 0) (off := x.toNat * 1) (l := boL s.fs.l.length (s.q.l.take i)) (vs := [.bool true]) (boL s.fs.l.length (s.q.l.take (i + 1))) hMz (by kernel_rfl) (by rw [boL_len]; show x.toNat * 1 + 1 ≤ _; omega) (by decide) (by rw [ht]; exact boL_set _ _ _ (by omega) (by omega)) ?_
          refine Ev.reW 15 ((i + 1 : Nat) : Int) hMz (by kernel_rfl) (by omega) (by omega) ?_
          exact Ev.againS hI (i + 1) [0] [0] ⟨hi', by clear hI; rw [hn]; simp_all⟩ (by show s.q.l.length - (i + 1) < s.q.l.length - i; omega) (by kernel_rfl) (by kernel_rfl) hl
  · have hs := of_decide_eq_false hs
    have hi' : i = s.q.l.length := by omega
    rw [hi', List.take_length, List.drop_length, okQ] at hn
    have he : boL s.fs.l.length s.q.l = boL s.fs.l.length (s.q.l.take i) := by rw [hi', List.take_length]
    exact Ev.retE true [0] [] (o' := [.row 4 1 s.fs.l.length (boL s.fs.l.length (s.q.l.take i))]) (r' := .tup [.row 0 s.fs.l.length, .bit true]) (p' := []) ⟨by show [Bx.row 4 1 s.fs.l.length (boL s.fs.l.length s.q.l)] = _; rw [he], rfl, rfl⟩ (by kernel_rfl) hl hn.symm
theorem heS_ok : Ev.Spec Try.prog heS := by
  refine Ev.spec 46 hMz Try.func16 (by kernel_rfl) fun s hx bs w hl => ?_
  have hx : Fit s := hx
  have hh := hx.h
  have hf := hx.f
  refine Ev.mkW (y := (s.fs.l.length : Int)) (zs := [.int .i64 0, .int .i64 0, .int .i64 0, .int .i64 0]) s.fs.l.length 32 (heL s.fs.l.length []) hMz (by kernel_rfl) rfl (by kernel_rfl) (by omega) (by omega) (heL_nil _) ?_
  refine Ev.loopS (fun i => i ≤ s.hs.l.length) (fun i => s.hs.l.length - i) (heF s) 0 [1] [0] hMz (Nat.zero_le _) (by kernel_rfl) hl fun i hi I hI => ?_
  have hi : i ≤ s.hs.l.length := hi
  refine Ev.split (decide ((i : Int) < (s.hs.l.length : Int))) hMz (by kernel_rfl) (fun hs => ?_) (fun hs => ?_)
  · have hs := of_decide_eq_true hs
    have hi' : i < s.hs.l.length := by omega
    have ht := take_at hi'
    have hle : ∀ k, cntH s.hs.l[i].a k (s.hs.l.take i) ≤ 8796093022208 := fun k => Nat.le_trans (cntH_le _ _ _) (by rw [List.length_take]; omega)
    refine Ev.learn (p := ∃ b off, s.hs.o = some ⟨b, off, none⟩) 0 (mfH s) (by kernel_rfl) (fun w h => rows_o h hi') fun ⟨b, off, ho⟩ => ?_
    refine Ev.idx (y := (i : Int)) (ao := s.hs.o) (m := s.hs.l.length) (m' := s.hs.l.length) (cc := s.hs.c) 17 i b off 3 hMz (by kernel_rfl) rfl ho rfl hi' ?_
    refine Ev.ldR (b := b) (off := off + i * 3) (k := 3) 18 s.hs.l[i].l hMz (by kernel_rfl) rfl (fun w F => rows_at (Ev.fct F 0 (mfH s) (by kernel_rfl)) hi' ho) ?_
    generalize s.hs.l[i] = x at ht hle ⊢
    obtain ⟨xa, xb, xc⟩ := x
    refine Ev.split (decide ((0 : Int) ≤ xa)) hMz (by kernel_rfl) (fun h1 => ?_) (fun h1 => ?_)
    · refine Ev.split (decide (xa < ↑s.fs.l.length)) hMz (by kernel_rfl) (fun h2 => ?_) (fun h2 => ?_)
      · refine Ev.callC kPlaced_ok ⟨xa, xb, xc⟩ [] [] hMz (by kernel_rfl) trivial fun _ _ => ?_
        refine Ev.split (decide ((0 : Int) ≤ xb) && decide (xb ≤ (3 : Int))) hMz (by kernel_rfl) (fun h3 => ?_) (fun h3 => ?_)
        · have g0 := of_decide_eq_true h1
          have g1 := of_decide_eq_true h2
          obtain ⟨hb0, hb3⟩ := Bool.and_eq_true_iff.1 h3
          rcases kinds (of_decide_eq_true hb0) (of_decide_eq_true hb3) with rfl | rfl | rfl | rfl
          · refine Ev.idxR (k := 0) (y := xa) 5 xa.toNat s.fs.l.length 4 hMz (by kernel_rfl) (by omega) (by omega) ?_
            refine Ev.idxA (y := 0) 6 0 0 (xa.toNat * 4) 4 1 hMz (by kernel_rfl) rfl (by decide) ?_
            refine Ev.idxR (k := 0) (y := xa) 9 xa.toNat s.fs.l.length 4 hMz (by kernel_rfl) (by omega) (by omega) ?_
            refine Ev.ldW (q := 0) (k := 0) (off := xa.toNat * 4 + 0 * 1) (l := heL s.fs.l.length (s.hs.l.take i)) (.int .i64 ((cntH xa 0 (s.hs.l.take i) : Nat) : Int)) hMz (by kernel_rfl) (.inl ⟨rfl, heL_at _ _ xa 0 (by decide) g0 g1⟩) ?_
            refine Ev.idxA (y := 0) 10 0 0 (xa.toNat * 4) 4 1 hMz (by kernel_rfl) rfl (by decide) ?_
            have hk : cntH xa 0 (s.hs.l.take i) ≤ 8796093022208 := hle 0
            refine Ev.stW (k := 0) (off := xa.toNat * 4 + 0 * 1) (l := heL s.fs.l.length (s.hs.l.take i)) (vs := [.int .i64 (IntKind.i64.wrap (((cntH xa 0 (s.hs.l.take i) : Nat) : Int) + 1))]) (heL s.fs.l.length (s.hs.l.take (i + 1))) hMz (by kernel_rfl) (by rw [heL_len]; show xa.toNat * 4 + 0 * 1 + 1 ≤ _; omega) (by show 0 < 1; decide) (by rw [ht, Ev.wrapI (by omega) (by omega)]; exact heL_set _ _ ⟨xa, 0, xc⟩ 0 (by decide) rfl g0 g1) ?_
            refine Ev.reW 15 ((i + 1 : Nat) : Int) hMz (by kernel_rfl) (by omega) (by omega) ?_
            exact Ev.againS hI (i + 1) [0] [0] hi' (by show s.hs.l.length - (i + 1) < s.hs.l.length - i; omega) (by kernel_rfl) (by kernel_rfl) hl
          · refine Ev.idxR (k := 0) (y := xa) 5 xa.toNat s.fs.l.length 4 hMz (by kernel_rfl) (by omega) (by omega) ?_
            refine Ev.idxA (y := 1) 6 1 0 (xa.toNat * 4) 4 1 hMz (by kernel_rfl) rfl (by decide) ?_
            refine Ev.idxR (k := 0) (y := xa) 9 xa.toNat s.fs.l.length 4 hMz (by kernel_rfl) (by omega) (by omega) ?_
            refine Ev.ldW (q := 0) (k := 0) (off := xa.toNat * 4 + 1 * 1) (l := heL s.fs.l.length (s.hs.l.take i)) (.int .i64 ((cntH xa 1 (s.hs.l.take i) : Nat) : Int)) hMz (by kernel_rfl) (.inl ⟨rfl, heL_at _ _ xa 1 (by decide) g0 g1⟩) ?_
            refine Ev.idxA (y := 1) 10 1 0 (xa.toNat * 4) 4 1 hMz (by kernel_rfl) rfl (by decide) ?_
            have hk : cntH xa 1 (s.hs.l.take i) ≤ 8796093022208 := hle 1
            refine Ev.stW (k := 0) (off := xa.toNat * 4 + 1 * 1) (l := heL s.fs.l.length (s.hs.l.take i)) (vs := [.int .i64 (IntKind.i64.wrap (((cntH xa 1 (s.hs.l.take i) : Nat) : Int) + 1))]) (heL s.fs.l.length (s.hs.l.take (i + 1))) hMz (by kernel_rfl) (by rw [heL_len]; show xa.toNat * 4 + 1 * 1 + 1 ≤ _; omega) (by show 0 < 1; decide) (by rw [ht, Ev.wrapI (by omega) (by omega)]; exact heL_set _ _ ⟨xa, 1, xc⟩ 1 (by decide) rfl g0 g1) ?_
            refine Ev.reW 15 ((i + 1 : Nat) : Int) hMz (by kernel_rfl) (by omega) (by omega) ?_
            exact Ev.againS hI (i + 1) [0] [0] hi' (by show s.hs.l.length - (i + 1) < s.hs.l.length - i; omega) (by kernel_rfl) (by kernel_rfl) hl
          · refine Ev.idxR (k := 0) (y := xa) 5 xa.toNat s.fs.l.length 4 hMz (by kernel_rfl) (by omega) (by omega) ?_
            refine Ev.idxA (y := 2) 6 2 0 (xa.toNat * 4) 4 1 hMz (by kernel_rfl) rfl (by decide) ?_
            refine Ev.idxR (k := 0) (y := xa) 9 xa.toNat s.fs.l.length 4 hMz (by kernel_rfl) (by omega) (by omega) ?_
            refine Ev.ldW (q := 0) (k := 0) (off := xa.toNat * 4 + 2 * 1) (l := heL s.fs.l.length (s.hs.l.take i)) (.int .i64 ((cntH xa 2 (s.hs.l.take i) : Nat) : Int)) hMz (by kernel_rfl) (.inl ⟨rfl, heL_at _ _ xa 2 (by decide) g0 g1⟩) ?_
            refine Ev.idxA (y := 2) 10 2 0 (xa.toNat * 4) 4 1 hMz (by kernel_rfl) rfl (by decide) ?_
            have hk : cntH xa 2 (s.hs.l.take i) ≤ 8796093022208 := hle 2
            refine Ev.stW (k := 0) (off := xa.toNat * 4 + 2 * 1) (l := heL s.fs.l.length (s.hs.l.take i)) (vs := [.int .i64 (IntKind.i64.wrap (((cntH xa 2 (s.hs.l.take i) : Nat) : Int) + 1))]) (heL s.fs.l.length (s.hs.l.take (i + 1))) hMz (by kernel_rfl) (by rw [heL_len]; show xa.toNat * 4 + 2 * 1 + 1 ≤ _; omega) (by show 0 < 1; decide) (by rw [ht, Ev.wrapI (by omega) (by omega)]; exact heL_set _ _ ⟨xa, 2, xc⟩ 2 (by decide) rfl g0 g1) ?_
            refine Ev.reW 15 ((i + 1 : Nat) : Int) hMz (by kernel_rfl) (by omega) (by omega) ?_
            exact Ev.againS hI (i + 1) [0] [0] hi' (by show s.hs.l.length - (i + 1) < s.hs.l.length - i; omega) (by kernel_rfl) (by kernel_rfl) hl
          · refine Ev.idxR (k := 0) (y := xa) 5 xa.toNat s.fs.l.length 4 hMz (by kernel_rfl) (by omega) (by omega) ?_
            refine Ev.idxA (y := 3) 6 3 0 (xa.toNat * 4) 4 1 hMz (by kernel_rfl) rfl (by decide) ?_
            refine Ev.idxR (k := 0) (y := xa) 9 xa.toNat s.fs.l.length 4 hMz (by kernel_rfl) (by omega) (by omega) ?_
            refine Ev.ldW (q := 0) (k := 0) (off := xa.toNat * 4 + 3 * 1) (l := heL s.fs.l.length (s.hs.l.take i)) (.int .i64 ((cntH xa 3 (s.hs.l.take i) : Nat) : Int)) hMz (by kernel_rfl) (.inl ⟨rfl, heL_at _ _ xa 3 (by decide) g0 g1⟩) ?_
            refine Ev.idxA (y := 3) 10 3 0 (xa.toNat * 4) 4 1 hMz (by kernel_rfl) rfl (by decide) ?_
            have hk : cntH xa 3 (s.hs.l.take i) ≤ 8796093022208 := hle 3
            refine Ev.stW (k := 0) (off := xa.toNat * 4 + 3 * 1) (l := heL s.fs.l.length (s.hs.l.take i)) (vs := [.int .i64 (IntKind.i64.wrap (((cntH xa 3 (s.hs.l.take i) : Nat) : Int) + 1))]) (heL s.fs.l.length (s.hs.l.take (i + 1))) hMz (by kernel_rfl) (by rw [heL_len]; show xa.toNat * 4 + 3 * 1 + 1 ≤ _; omega) (by show 0 < 1; decide) (by rw [ht, Ev.wrapI (by omega) (by omega)]; exact heL_set _ _ ⟨xa, 3, xc⟩ 3 (by decide) rfl g0 g1) ?_
            refine Ev.reW 15 ((i + 1 : Nat) : Int) hMz (by kernel_rfl) (by omega) (by omega) ?_
            exact Ev.againS hI (i + 1) [0] [0] hi' (by show s.hs.l.length - (i + 1) < s.hs.l.length - i; omega) (by kernel_rfl) (by kernel_rfl) hl
        · refine Ev.reW 15 ((i + 1 : Nat) : Int) hMz (by kernel_rfl) (by omega) (by omega) ?_
          have hr : heL s.fs.l.length (s.hs.l.take (i + 1)) = heL s.fs.l.length (s.hs.l.take i) := by rw [ht]; exact heL_other _ _ _ (by simp_all <;> omega)
          refine Ev.reR (e := 28) (z := 4) (n := s.fs.l.length) (l := heL s.fs.l.length (s.hs.l.take i)) 0 (heL s.fs.l.length (s.hs.l.take (i + 1))) hMz (by kernel_rfl) hr.symm ?_
          exact Ev.againS hI (i + 1) [0] [0] hi' (by show s.hs.l.length - (i + 1) < s.hs.l.length - i; omega) (by kernel_rfl) (by kernel_rfl) hl
      · refine Ev.reW 15 ((i + 1 : Nat) : Int) hMz (by kernel_rfl) (by omega) (by omega) ?_
        have hr : heL s.fs.l.length (s.hs.l.take (i + 1)) = heL s.fs.l.length (s.hs.l.take i) := by rw [ht]; exact heL_other _ _ _ (by simp_all <;> omega)
        refine Ev.reR (e := 28) (z := 4) (n := s.fs.l.length) (l := heL s.fs.l.length (s.hs.l.take i)) 0 (heL s.fs.l.length (s.hs.l.take (i + 1))) hMz (by kernel_rfl) hr.symm ?_
        exact Ev.againS hI (i + 1) [0] [0] hi' (by show s.hs.l.length - (i + 1) < s.hs.l.length - i; omega) (by kernel_rfl) (by kernel_rfl) hl
    · refine Ev.reW 15 ((i + 1 : Nat) : Int) hMz (by kernel_rfl) (by omega) (by omega) ?_
      have hr : heL s.fs.l.length (s.hs.l.take (i + 1)) = heL s.fs.l.length (s.hs.l.take i) := by rw [ht]; exact heL_other _ _ _ (by simp_all <;> omega)
      refine Ev.reR (e := 28) (z := 4) (n := s.fs.l.length) (l := heL s.fs.l.length (s.hs.l.take i)) 0 (heL s.fs.l.length (s.hs.l.take (i + 1))) hMz (by kernel_rfl) hr.symm ?_
      exact Ev.againS hI (i + 1) [0] [0] hi' (by show s.hs.l.length - (i + 1) < s.hs.l.length - i; omega) (by kernel_rfl) (by kernel_rfl) hl
  · have hs := of_decide_eq_false hs
    have hi' : i = s.hs.l.length := by omega
    have he : heL s.fs.l.length s.hs.l = heL s.fs.l.length (s.hs.l.take i) := by rw [hi', List.take_length]
    exact Ev.retE () [0] [] (o' := [.row 28 4 s.fs.l.length (heL s.fs.l.length (s.hs.l.take i))]) (r' := .row 0 s.fs.l.length) (p' := []) ⟨by show [Bx.row 28 4 s.fs.l.length (heL s.fs.l.length s.hs.l)] = _; rw [he], rfl, rfl⟩ (by kernel_rfl) hl trivial
end Go.Proofs.Ytkjpbjgepnbibaa
