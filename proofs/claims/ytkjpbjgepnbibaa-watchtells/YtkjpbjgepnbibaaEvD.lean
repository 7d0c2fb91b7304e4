/- The second engine: the step. -/
import Derived.Test.YtkjpbjgepnbibaaEvC
namespace Go.Proofs.Ytkjpbjgepnbibaa
namespace Ev
open Go.RowKit
set_option maxRecDepth 100000

section
variable {P : Program} {C : Cx} {bs : List Blk} {st st' : SS} {a : Act} {w : World} {o : Oper} {K : Act → World → Prop} {Q : Exit → Act → World → Prop} {ops : Array Oper} {rest : List Oper}
theorem ex1_ok {M : List Bx} (A : At C bs st a w) (h : ex1 P C.n ops o st = some st') (hM : actOk M o st.s = true) (hK : ∀ bs' a' w', At C bs' st' a' w' → Stp bs bs' (lvs bs st.b) w w' → Sty M bs bs' st.b st'.b w w' → K a' w') : if Region.wanted o (yielded ops a.tmps) then o.wp P a w K Q else K (a.put o.dst undef) w := by
  unfold ex1 at h
  obtain ⟨w1, w2⟩ := wnt_ok (ops := ops) (o := o) A
  split at h
  next e => rw [if_pos (w1 e)]; exact exO_ok A h hM hK
  next e =>
    rw [if_neg (by rw [w2 e]; simp)]
    obtain ⟨p1, p2, _⟩ := putD_ok A (x := .non) (by simp only [okB]) h
    simp only [SV.den] at p1
    exact hK bs _ w p1 (Stp.refl _ _ _) (by rw [p2]; exact Sty.refl _ _ _ _)
  · cases h
theorem dOne_ok {M : List Bx} {bs0 : List Blk} (A : At C bs st a w) (hp : ∃ nb, bs = bs0 ++ nb) (hS : BxM M bs0 w) (h : dOne P C.n ops M o st = some st') : ∃ v, YieldsIf P ops (BxM M bs0) o v a ∧ At C bs st' (a.put o.dst v) w ∧ st'.b = st.b := by
  have hgd : ∀ w1, BxM M bs0 w1 → ∀ k us, M[k]? = some (.cells us) → ∃ X, (bkA bs k).a = some X ∧ BoxL w1 X (denL bs us) ∧ okL bs.length us = true := fun w1 hS k us hk => by
    obtain ⟨X, x1, x2, x3⟩ := hS k us hk
    obtain ⟨nb, rfl⟩ := hp
    have hkl : k < bs0.length := by
      rcases Nat.lt_or_ge k bs0.length with h' | h'
      · exact h'
      · unfold bkA at x1
        rw [List.getD_eq_getElem?_getD, List.getElem?_eq_none h'] at x1
        cases x1
    exact ⟨X, by rw [bkA_app hkl]; exact x1, by rw [denL_app x3]; exact x2, okL_mono (by rw [List.length_append]; omega) x3⟩
  unfold dOne at h
  obtain ⟨w1, w2⟩ := wnt_ok (ops := ops) (o := o) A
  split at h
  next e =>
    obtain ⟨y, h1, h2⟩ := Option.bind_eq_some_iff.1 h
    have hr : ∀ w1, BxM M bs0 w1 → (execOp a.eval o).run P w1 = .ok (.value (y.den bs)) w1 ∧ okB bs.length y = true := fun w1 hS => pvS_ok A.f (hgd w1 hS) h1
    obtain ⟨p1, p2, _⟩ := putD_ok A (hr w hS).2 h2
    exact ⟨y.den bs, .inl ⟨w1 e, fun w1 hS => (hr w1 hS).1⟩, p1, p2⟩
  next e =>
    obtain ⟨p1, p2, _⟩ := putD_ok A (x := .non) (by simp only [okB]) h
    simp only [SV.den] at p1
    exact ⟨undef, .inr ⟨w2 e, rfl⟩, p1, p2⟩
  · cases h
end
/-- Which boxes a region may write. -/
def isDst (t : Nat) (o : Oper) : Bool := match o.dst with | some d => Nat.beq d t | none => false
def boxN : SV → Option Nat
  | .ptr k _ => some k
  | _ => none
def rootS (ops : List Oper) (s : List (Nat × SV)) : Nat → Operand → Option Nat
  | f + 1, .tmp t => match ops.find? (isDst t) with
    | some o => match o.op with
      | .fieldAddr _ x _ => rootS ops s f x
      | .move x => rootS ops s f x
      | .assign x => rootS ops s f x
      | .nilCheck x => rootS ops s f x
      | _ => none
    | none => match s.lookup t with
      | some y => boxN y
      | none => none
  | _, _ => none
def capB : SV → List Nat
  | .fn _ x y => (x ++ y).filterMap boxN
  | _ => []
def capO (s : List (Nat × SV)) : Callee → List Nat
  | .value (.tmp t) => match s.lookup t with
    | some y => capB y
    | none => []
  | _ => []
def wrO (ops : List Oper) (s : List (Nat × SV)) (o : Oper) : List Nat :=
  match o.op with
  | .store _ x _ => (rootS ops s 9 x).toList
  | .call c => (c.args.toList.flatMap fun x => (rootS ops s 9 x).toList) ++ capO s c.callee
  | _ => []
def wrI (ops : List Oper) (s : List (Nat × SV)) : Nat → List Oper → List Nat
  | _, [] => []
  | i, o :: r => bif (wrO ops s o).isEmpty then wrI ops s (i + 1) r else i :: wrI ops s (i + 1) r
def dOk (ops : Array Oper) (W : List Nat) (i : Nat) : Bool := W.all fun j => match ops[j]? with
  | some o => o.after.any fun e => Region.binds .any e && Nat.beq e.on i
  | none => false
def ldI (ops : Array Oper) (s : List (Nat × SV)) (ks W : List Nat) : Nat → List Oper → List Nat
  | _, [] => []
  | i, o :: r => match o.op with
    | .load _ x => bif (match rootS ops.toList s 9 x with | some k => hasN ks k | none => false) && dOk ops W i then i :: ldI ops s ks W (i + 1) r else ldI ops s ks W (i + 1) r
    | _ => ldI ops s ks W (i + 1) r
def mskF (ks : List Nat) : Nat → List Bx → List Bx
  | _, [] => []
  | i, b :: r => (bif ks.any (Nat.beq i) then .dead else b) :: mskF ks (i + 1) r
theorem mskF_len (ks : List Nat) : ∀ (B : List Bx) (i : Nat), (mskF ks i B).length = B.length
  | [], _ => rfl
  | _ :: r, i => by rw [mskF, List.length_cons, List.length_cons, mskF_len ks r]
theorem mskF_at (ks : List Nat) : ∀ (B : List Bx) (i k : Nat) (us : List SV), (mskF ks i B)[k]? = some (.cells us) → B[k]? = some (.cells us)
  | [], _, _, _, h => by simp [mskF] at h
  | b :: r, i, 0, us, h => by
    simp only [mskF, List.getElem?_cons_zero, Option.some.injEq] at h ⊢
    cases e : ks.any (Nat.beq i) with
    | true => rw [e] at h; cases h
    | false => rw [e] at h; exact h
  | b :: r, i, k + 1, us, h => by
    simp only [mskF, List.getElem?_cons_succ] at h ⊢
    exact mskF_at ks r (i + 1) k us h
theorem bxM_all {bs : List Blk} {B : List Bx} {w : World} (h : Bk bs B w) : BxM B bs w := cells_at h
theorem bxM_msk {bs : List Blk} {B : List Bx} {w : World} (h : BxM B bs w) (ks : List Nat) : BxM (mskF ks 0 B) bs w := fun k us hk => h k us (mskF_at ks B 0 k us hk)
def rdy (hd : Hd) : List Nat := Region.ready .any hd.ops hd.li
/-- Of which boxes an operation that is taken first may read. -/
def fst0 (hd : Hd) (i : Nat) : Bool := hasN hd.D i && (dOk hd.ops hd.W i && !anyW hd.W hd.li)
def mI (hd : Hd) (i : Nat) : List Bx := bif fst0 hd i then hd.F else hd.M
def takeI (P : Program) (n : Nat) (hd : Hd) (st : SS) : List Nat → Option (Nat × SS)
  | [] => none
  | i :: r => match (hd.ops[i]?).bind fun o => dOne P n hd.ops (mI hd i) o st with
    | some st' => bif Region.free .any hd.ops hd.li i && !hasN hd.W i then some (i, st') else takeI P n hd st r
    | none => takeI P n hd st r
def nxD (hd : Hd) (f i : Nat) : Hd := ⟨2, hd.ops, [], f, hd.li.setIfInBounds i true, hd.M, hd.F, hd.W, hd.D, hd.m0⟩
def mN (hd : Hd) : List Bx := mc hd.M hd.F hd.W hd.li
def stepA (P : Program) (n : Nat) (c : Cfg) (f : Nat) : List Nat → Option Cfg
  | [i] => (c.hd.ops[i]?).bind fun o => bif actOk (mN (nxD c.hd f i)) o c.st.s then (ex1 P n c.hd.ops o c.st).map fun st' => ⟨nxD c.hd f i, c.r, st'⟩ else none
  | _ => none
def stepD (P : Program) (n : Nat) (c : Cfg) : Option Cfg :=
  match rdy c.hd with
  | [] => some ⟨h0, c.r, c.st⟩
  | i :: rs => match c.hd.fu with
    | 0 => none
    | f + 1 => match bif Region.noSelect c.hd.ops then takeI P n c.hd c.st (i :: rs) else none with
      | some p => some ⟨nxD c.hd f p.1, c.r, p.2⟩
      | none => stepA P n c f (i :: rs)
def toBl (i : Nat) : List It → Option (List It)
  | [] => none
  | x :: r => match x.k with
    | 1 => bif Nat.beq i x.i then some r else toBl i r
    | _ => toBl i r
def hdP (ops : Array Oper) : Hd := ⟨1, ops, ops.toList, 0, #[], [], [], [], [], []⟩
def hdD (ops : Array Oper) (st : SS) : Hd := ⟨2, ops, [], ops.size, Array.replicate ops.size false, mskF (ops.toList.flatMap (wrO ops.toList st.s)) 0 st.b, st.b, wrI ops.toList st.s 0 ops.toList, ldI ops st.s (ops.toList.flatMap (wrO ops.toList st.s)) (wrI ops.toList st.s 0 ops.toList) 0 ops.toList, st.m⟩
def stepC (c : Code) (r : List It) (st : SS) : Option Cfg :=
  match c with
  | .skip => some ⟨h0, r, st⟩
  | .label _ => some ⟨h0, r, st⟩
  | .seq x y => some ⟨h0, co x :: co y :: r, st⟩
  | .block i x => some ⟨h0, co x :: bl i :: r, st⟩
  | .exit i => (toBl i r).map fun r' => ⟨h0, r', st⟩
  | .region _ ops false => some ⟨hdP ops, r, st⟩
  | .region _ ops true => some ⟨hdD ops st, r, st⟩
  | .cond x t e => match evS st.s x with
    | some y => match y with
      | .bit b => match b with
        | true => some ⟨h0, co t :: r, st⟩
        | false => some ⟨h0, co e :: r, st⟩
      | _ => none
    | none => none
  | _ => none
def step (P : Program) (n : Nat) (c : Cfg) : Option Cfg :=
  match c.hd.k with
  | 0 => match c.r with
    | [] => none
    | x :: r => match x.k with
      | 0 => stepC x.c r c.st
      | 1 => some ⟨h0, r, c.st⟩
      | _ => none
  | 1 => match c.hd.l with
    | [] => some ⟨h0, c.r, c.st⟩
    | o :: l => (ex1 P n c.hd.ops o c.st).map fun st' => ⟨⟨1, c.hd.ops, l, 0, #[], [], [], [], [], []⟩, c.r, st'⟩
  | 2 => stepD P n c
  | i + 3 => match c.hd.fu with
    | 0 => none
    | f + 1 => stepA P n c f [i]
def go (P : Program) (n : Nat) : Nat → Cfg → Cfg
  | 0, c => c
  | f + 1, c => match step P n c with
    | some c' => go P n f c'
    | none => c
section
variable {P : Program} {C : Cx} {Q : Exit → Act → World → Prop}
theorem actOk_nil (o : Oper) (s : List (Nat × SV)) : actOk [] o s = true := by
  unfold actOk
  split
  · split
    · simp
    · rfl
  · rfl
theorem ex_bl {x : It} {r : List It} {i : Nat} (hk : x.k = 1) : ex P Q (x :: r) (.exit i) = bif Nat.beq i x.i then ex P Q r .normal else ex P Q r (.exit i) := by
  conv => lhs; unfold ex
  rw [hk]
  rfl
theorem ex_ot {x : It} {r : List It} {i : Nat} (hk : x.k = 1 → False) : ex P Q (x :: r) (.exit i) = ex P Q r (.exit i) := by
  conv => lhs; unfold ex
  split <;> simp_all
theorem toBl_ok {i : Nat} : ∀ {r r' : List It}, toBl i r = some r' → ex P Q r (.exit i) = ex P Q r' .normal
  | [], _, h => by cases h
  | x :: r, r', h => by
    unfold toBl at h
    split at h
    next e =>
      rw [ex_bl e]
      cases hb : Nat.beq i x.i with
      | true => rw [hb] at h; cases h; rfl
      | false => rw [hb] at h; exact toBl_ok h
    next e => rw [ex_ot e]; exact toBl_ok h
theorem takeI_ok {n : Nat} {hd : Hd} {st : SS} : ∀ {rs : List Nat} {p : Nat × SS}, takeI P n hd st rs = some p → p.1 ∈ rs ∧ (Region.free .any hd.ops hd.li p.1 = true ∧ hasN hd.W p.1 = false) ∧ ∃ o, hd.ops[p.1]? = some o ∧ dOne P n hd.ops (mI hd p.1) o st = some p.2
  | [], _, h => by cases h
  | i :: r, p, h => by
    unfold takeI at h
    split at h
    next st' e =>
      cases hf : (Region.free .any hd.ops hd.li i && !hasN hd.W i) with
      | true =>
        rw [hf] at h
        cases h
        obtain ⟨o, h1, h2⟩ := Option.bind_eq_some_iff.1 e
        obtain ⟨f1, f2⟩ := Bool.and_eq_true_iff.1 hf
        exact ⟨List.mem_cons_self, ⟨f1, by simpa using f2⟩, o, h1, h2⟩
      | false =>
        rw [hf] at h
        obtain ⟨h1, h2⟩ := takeI_ok h
        exact ⟨List.mem_cons_of_mem _ h1, h2⟩
    · obtain ⟨h1, h2⟩ := takeI_ok h
      exact ⟨List.mem_cons_of_mem _ h1, h2⟩
theorem anyW_set {W : List Nat} {j : Nat} (hj : hasN W j = false) (l : Array Bool) : anyW W (l.setIfInBounds j true) = anyW W l := by
  unfold anyW
  unfold hasN at hj
  rw [List.any_eq_false] at hj
  have : ∀ k ∈ W, (l.setIfInBounds j true).getD k false = l.getD k false := fun k hk => by
    have hne : j ≠ k := fun e => by
      subst e
      exact hj j hk (Nat.beq_refl j)
    simp [Array.getD_eq_getD_getElem?, Array.getElem?_setIfInBounds_ne hne]
  clear hj
  induction W with
  | nil => rfl
  | cons k r ih => rw [List.any_cons, List.any_cons, this k List.mem_cons_self, ih fun k hk => this k (List.mem_cons_of_mem _ hk)]
theorem sl_set {hd : Hd} {i : Nat} {bs0 : List Blk} (hi : hasN hd.W i = false) (l : Array Bool) (w : World) : SL hd bs0 (l.setIfInBounds i true) w ↔ SL hd bs0 l w := by
  unfold SL mc
  rw [anyW_set hi]
theorem mc_M {M F : List Bx} {W : List Nat} {l : Array Bool} {bs0 : List Blk} {w : World} (hMF : ∀ w, BxM F bs0 w → BxM M bs0 w) (h : BxM (mc M F W l) bs0 w) : BxM M bs0 w := by
  unfold mc at h
  cases e : anyW W l with
  | true => rw [e] at h; exact h
  | false => rw [e] at h; exact hMF w h
theorem anyW_on {W : List Nat} {l : Array Bool} {i : Nat} (h : anyW W l = true) : anyW W (l.setIfInBounds i true) = true := by
  unfold anyW at h ⊢
  obtain ⟨k, hk, hv⟩ := List.any_eq_true.1 h
  refine List.any_eq_true.2 ⟨k, hk, ?_⟩
  by_cases e : i = k
  · subst e
    rw [Array.getD_eq_getD_getElem?] at hv ⊢
    have hlt : i < l.size := by
      rcases Nat.lt_or_ge i l.size with h' | h'
      · exact h'
      · rw [Array.getElem?_eq_none h'] at hv; cases hv
    simp [Array.getElem?_setIfInBounds_self_of_lt hlt]
  · rw [Array.getD_eq_getD_getElem?, Array.getElem?_setIfInBounds_ne e, ← Array.getD_eq_getD_getElem?]
    exact hv
theorem mc_on {M F : List Bx} {W : List Nat} {l : Array Bool} {i : Nat} {bs0 : List Blk} {w : World} (hMF : ∀ w, BxM F bs0 w → BxM M bs0 w) (h : BxM (mc M F W l) bs0 w) : BxM (mc M F W (l.setIfInBounds i true)) bs0 w := by
  cases e : anyW W l with
  | true =>
    unfold mc at h ⊢
    rw [anyW_on e]
    rw [e] at h
    exact h
  | false =>
    have hF : BxM F bs0 w := by unfold mc at h; rw [e] at h; exact h
    unfold mc
    cases anyW W (l.setIfInBounds i true) with
    | true => exact hMF w hF
    | false => exact hF
theorem mc_len {M F : List Bx} {W : List Nat} {l : Array Bool} {n : Nat} (h1 : M.length = n) (h2 : F.length = n) : (mc M F W l).length = n := by
  unfold mc
  cases anyW W l with
  | true => exact h1
  | false => exact h2
theorem dOk_not {ops : Array Oper} {W : List Nat} {i j : Nat} {l : Array Bool} (h : dOk ops W i = true) (hj : j ∈ Region.ready .any ops l) (hi : l.getD i true = false) : hasN W j = false := by
  cases hh : hasN W j with
  | false => rfl
  | true =>
    obtain ⟨k, hk, he⟩ := List.any_eq_true.1 hh
    have := Nat.eq_of_beq_eq_true he
    subst this
    have h1 := List.all_eq_true.1 h j hk
    obtain ⟨_, oj, hoj, hall⟩ := mem_ready.1 hj
    rw [hoj] at h1
    obtain ⟨e, he1, he2⟩ := Array.any_eq_true'.1 h1
    obtain ⟨b1, b2⟩ := Bool.and_eq_true_iff.1 he2
    have h2 := hall e he1 b1
    rw [Nat.eq_of_beq_eq_true b2] at h2
    rcases Nat.lt_or_ge i l.size with h' | h'
    · simp [h'] at hi h2; rw [hi] at h2; cases h2
    · simp [Array.getElem?_eq_none h'] at h2
theorem mc_Ce {M F B : List Bx} {W : List Nat} {l : Array Bool} (h1 : Ce F B) (h2 : Ce M F) : Ce (mc M F W l) B := by
  unfold mc
  cases anyW W l with
  | true => exact h2.trans h1
  | false => exact h1
/-- The invariant stays. -/
theorem bxM_on {M : List Bx} {bs0 bs bs' : List Blk} {w w' : World} {B B' : List Bx} (h : BxM M bs0 w) (hp : ∃ nb, bs = bs0 ++ nb) (hc : Ce M B) (s : Sty M bs bs' B B' w w') (hz : w.heap.size ≤ w'.heap.size) : BxM M bs0 w' := fun k us hk => by
  obtain ⟨X, x1, x2, x3⟩ := h k us hk
  obtain ⟨nb, rfl⟩ := hp
  have hk0 : k < bs0.length := by
    rcases Nat.lt_or_ge k bs0.length with h' | h'
    · exact h'
    · unfold bkA at x1
      rw [List.getD_eq_getElem?_getD, List.getElem?_eq_none h'] at x1
      cases x1
  obtain ⟨us', hus'⟩ := hc k us hk
  have hl : live (bs0 ++ nb) B k = some X := by
    unfold live
    rw [hus', bkA_app hk0]
    exact x1
  exact ⟨X, x1, x2.same (s.st k us X hk hl) hz, x3⟩
theorem pre_on {bs0 bs bs' : List Blk} {S : List Nat} {w w' : World} (hp : ∃ nb, bs = bs0 ++ nb) (t : Stp bs bs' S w w') : ∃ nb, bs' = bs0 ++ nb := by
  obtain ⟨nb, rfl⟩ := hp
  obtain ⟨nb', rfl⟩ := t.n
  exact ⟨nb ++ nb', by simp⟩
theorem step_ok (hm : P.follows .mixedOrders = true) {c c' : Cfg} (h : step P C.n c = some c') (H : Runs P C Q c') : Runs P C Q c := by
  refine ⟨?_⟩
  intro bs a w A
  unfold step at h
  split at h
  next hk =>
    rw [hk]
    show ex P Q c.r .normal a w
    split at h
    · cases h
    next x r hr =>
      rw [hr]
      split at h
      next hx =>
        unfold ex
        rw [hx]
        show x.c.wp P (ex P Q r) a w
        have hH : ∀ {st : SS} {r' : List It}, c' = ⟨h0, r', st⟩ → At C bs st a w → ex P Q r' .normal a w := fun e A => by subst e; exact H.o bs a w A
        unfold stepC at h
        split at h
        next e => rw [e]; exact wp_skip (hH (Option.some.inj h).symm A)
        next e => rw [e]; exact wp_label (hH (Option.some.inj h).symm A)
        next x' y e =>
          rw [e]
          have := hH (Option.some.inj h).symm A
          refine wp_seq (Code.wp_mono ?_ this)
          intro e a w q
          cases e <;> exact q
        next i x' e =>
          rw [e]
          have := hH (Option.some.inj h).symm A
          refine wp_block (Code.wp_mono ?_ this)
          intro e a w q
          cases e with
          | exit j =>
            show (if j = i then ex P Q r .normal a w else ex P Q r (.exit j) a w)
            have q' : (bif Nat.beq j i then ex P Q r .normal else ex P Q r (.exit j)) a w := q
            by_cases hji : j = i
            · subst hji
              rw [if_pos rfl]
              simpa [Nat.beq_refl] using q'
            · rw [if_neg hji]
              have : Nat.beq j i = false := by
                cases hb : Nat.beq j i with
                | false => rfl
                | true => exact absurd (Nat.eq_of_beq_eq_true hb) hji
              rw [this] at q'
              exact q'
          | _ => exact q
        next i e =>
          rw [e]
          obtain ⟨r', h1, h2⟩ := Option.map_eq_some_iff.1 h
          refine wp_exit ?_
          rw [toBl_ok h1]
          exact hH h2.symm A
        next id ops e =>
          rw [e]
          have he := Option.some.inj h
          subst he
          have := H.o bs a w A
          exact wp_region_list this
        next id ops e =>
          rw [e]
          have he := Option.some.inj h
          subst he
          have Ad := A.keep (drew_below w)
          have hmx := A.m
          have := H.o bs a w.drew Ad bs ⟨[], by simp⟩ (by show (mskF _ 0 c.st.b).length = _; rw [mskF_len, A.b.l]) A.b.l.symm (fun w h => bxM_msk h _) (by
            show BxM (mc (hdD ops c.st).M (hdD ops c.st).F (hdD ops c.st).W (hdD ops c.st).li) bs w.drew
            cases e : anyW (hdD ops c.st).W (hdD ops c.st).li with
            | true => unfold mc; rw [e]; exact bxM_msk (bxM_all Ad.b) _
            | false => unfold mc; rw [e]; exact bxM_all Ad.b) Ad.m (Ce.refl _) (fun k us hk => ⟨us, mskF_at _ _ 0 k us hk⟩)
          exact beginL hm this
        next x' t e' e =>
          rw [e]
          split at h
          next y hy =>
            obtain ⟨e1, e2⟩ := evS_ok A.f hy
            split at h
            next b =>
              simp only [SV.den] at e1
              split at h
              · exact wp_cond_true e1 (hH (Option.some.inj h).symm A)
              · exact wp_cond_false e1 (hH (Option.some.inj h).symm A)
            · cases h
          · cases h
        · cases h
      next hx =>
        unfold ex
        rw [hx]
        have he := Option.some.inj h
        subst he
        exact H.o bs a w A
      · cases h
  next hk =>
    rw [hk]
    show wpList P c.hd.ops (ex P Q c.r) c.hd.l a w
    split at h
    next hl =>
      have he := Option.some.inj h
      subst he
      rw [hl]
      exact H.o bs a w A
    next o l hl =>
      rw [hl]
      obtain ⟨st', h1, rfl⟩ := Option.map_eq_some_iff.1 h
      refine wpList_step fun K hK => ?_
      exact ex1_ok (M := []) A h1 (actOk_nil _ _) fun bs' a' w' A' _ _ => hK a' w' (H.o bs' a' w' A')
  next hk =>
    rw [hk]
    intro bs0 hp hl hlF hMF hB hF hcF hcM
    unfold stepD at h
    split at h
    next hr =>
      have he := Option.some.inj h
      subst he
      exact doneL hr (NoPanic.normal (H.o bs a w A)) _
    next i rs hr =>
      split at h
      · cases h
      next f hf =>
        rw [hf]
        have hS : SL c.hd bs0 c.hd.li w := ⟨hB, fun x hx => (hF x hx).l⟩
        split at h
        next p hp' =>
          have he := Option.some.inj h
          subst he
          cases hn : Region.noSelect c.hd.ops with
          | false => rw [hn] at hp'; cases hp'
          | true =>
            rw [hn] at hp'
            obtain ⟨h1, ⟨h2, hW⟩, o, h3, h4⟩ := takeI_ok hp'
            have hr' : (Region.ready .any c.hd.ops c.hd.li).contains p.1 = true := by rw [show Region.ready .any c.hd.ops c.hd.li = i :: rs from hr]; simpa using h1
            have hB' : BxM (mc c.hd.M c.hd.F c.hd.W (c.hd.li.setIfInBounds p.1 true)) bs0 w := mc_on hMF hB
            cases hf0 : fst0 c.hd p.1 with
            | true =>
              obtain ⟨_, f2⟩ := Bool.and_eq_true_iff.1 hf0
              obtain ⟨f3, f4⟩ := Bool.and_eq_true_iff.1 f2
              have f5 : anyW c.hd.W c.hd.li = false := by simpa using f4
              have hBF : BxM c.hd.F bs0 w := by unfold mc at hB; rw [f5] at hB; exact hB
              unfold mI at h4
              rw [hf0] at h4
              obtain ⟨v, hy, A', hb'⟩ := dOne_ok A hp hBF h4
              refine takeL h3 hn h2 hr' (fun _ _ _ h => h) (BxM c.hd.F bs0) (fun l => anyW c.hd.W l = false) (sl_set hW) (fun l w hl hs => ?_) (fun l j hl hj hi => ?_) f5 hy hS ?_
              · have := hs.1
                unfold mc at this
                rw [hl] at this
                exact this
              · rw [anyW_set (dOk_not f3 hj hi)]
                exact hl
              · exact H.o bs _ w A' bs0 hp hl hlF hMF hB' (by show ∀ x ∈ c.hd.m0, Lies C.Z bs p.2.b w x; rw [hb']; exact hF) (by show Ce c.hd.F p.2.b; rw [hb']; exact hcF) hcM
            | false =>
              unfold mI at h4
              rw [hf0] at h4
              obtain ⟨v, hy, A', hb'⟩ := dOne_ok A hp (mc_M hMF hB) h4
              refine takeL h3 hn h2 hr' (fun _ _ _ h => h) (BxM c.hd.M bs0) (fun _ => True) (sl_set hW) (fun l w _ hs => mc_M hMF hs.1) (fun _ _ _ _ _ => trivial) trivial hy hS ?_
              exact H.o bs _ w A' bs0 hp hl hlF hMF hB' (by show ∀ x ∈ c.hd.m0, Lies C.Z bs p.2.b w x; rw [hb']; exact hF) (by show Ce c.hd.F p.2.b; rw [hb']; exact hcF) hcM
        next hp' =>
          unfold stepA at h
          split at h
          next i' hi' =>
            obtain ⟨o, h1, h2⟩ := Option.bind_eq_some_iff.1 h
            cases hk' : actOk (mN (nxD c.hd f i')) o c.st.s with
            | false => rw [hk'] at h2; cases h2
            | true =>
              rw [hk'] at h2
              obtain ⟨st', h3, rfl⟩ := Option.map_eq_some_iff.1 h2
              have hre : Region.ready .any c.hd.ops c.hd.li = [i'] := by rw [← hi', ← hr]; rfl
              refine allL (by rw [hre]; simp) fun k hk => ?_
              rw [hre] at hk
              have hk := List.mem_singleton.1 hk
              subst hk
              refine oneOf h1 fun K hK => ?_
              refine ex1_ok A h3 hk' fun bs' a' w' A' t s => ?_
              have hB' := bxM_on (mc_on (i := k) hMF hB) hp (mc_Ce hcF hcM) s t.bl.size
              have hF' := fun x hx => (hF x hx).on t.bl.size t.k s.nl
              exact hK a' w' ⟨⟨hB', fun x hx => (hF' x hx).l⟩, H.o bs' a' w' A' bs0 (pre_on hp t) hl hlF hMF hB' hF' (hcF.trans s.ce) hcM⟩
          · cases h
  next i hk =>
    rw [hk]
    intro bs0 hp hl hlF hMF hB hF hcF hcM f hf
    rw [hf] at h
    simp only at h
    unfold stepA at h
    simp only at h
    obtain ⟨o, h1, h2⟩ := Option.bind_eq_some_iff.1 h
    cases hk' : actOk (mN (nxD c.hd f i)) o c.st.s with
    | false => rw [hk'] at h2; cases h2
    | true =>
      rw [hk'] at h2
      obtain ⟨st', h3, rfl⟩ := Option.map_eq_some_iff.1 h2
      refine oneOf h1 fun K hK => ?_
      refine ex1_ok A h3 hk' fun bs' a' w' A' t s => ?_
      have hB' := bxM_on (mc_on (i := i) hMF hB) hp (mc_Ce hcF hcM) s t.bl.size
      have hF' := fun x hx => (hF x hx).on t.bl.size t.k s.nl
      exact hK a' w' ⟨⟨hB', fun x hx => (hF' x hx).l⟩, H.o bs' a' w' A' bs0 (pre_on hp t) hl hlF hMF hB' hF' (hcF.trans s.ce) hcM⟩
theorem go_ok (hm : P.follows .mixedOrders = true) : ∀ (k : Nat) {c : Cfg}, Runs P C Q (go P C.n k c) → Runs P C Q c
  | 0, _, H => H
  | k + 1, c, H => by
    unfold go at H
    split at H
    next c' e => exact step_ok hm e (go_ok hm k H)
    · exact H
end
end Ev
end Go.Proofs.Ytkjpbjgepnbibaa
