/- The engine: what is carried out by itself. -/
import Derived.Test.YtbpmcabeghbalaaEnB
namespace Go.Proofs.Ytbpmcabeghbalaa
namespace En
open Go.RowKit
set_option maxRecDepth 100000

structure It where
  k : Nat
  i : Nat
  c : Code
  I : Act → World → Prop
def co (c : Code) : It := ⟨0, 0, c, fun _ _ => True⟩
def bl (i : Nat) : It := ⟨1, i, .skip, fun _ _ => True⟩
def lp (I : Act → World → Prop) : It := ⟨2, 0, .skip, I⟩
/-- What is to be shown ahead of this rest. -/
def ex (P : Program) (Q : Exit → Act → World → Prop) : List It → Exit → Act → World → Prop
  | [], e => Q e
  | x :: r, e => match x.k, e with
    | 0, .normal => x.c.wp P (ex P Q r)
    | 1, .exit i => bif Nat.beq i x.i then ex P Q r .normal else ex P Q r (.exit i)
    | 2, .normal => x.I
    | _, e => ex P Q r e
/-- Where in a region: no region (k = 0), one in order (1; l: what is to come), one that draws (2). -/
structure Hd where
  k : Nat
  ops : Array Oper
  l : List Oper
  fu : Nat
  li : Array Bool
  M : List (List Value)
  m0 : List Mf
def h0 : Hd := ⟨0, #[], [], 0, #[], [], []⟩
structure Cfg where
  hd : Hd
  r : List It
  st : SS
def BxM (M : List (List Value)) (bs0 : List Nat) (w : World) : Prop := ∀ k vs, M[k]? = some vs → BoxL w (bs0.getD k 0) vs
def SM (M : List (List Value)) (m0 : List Mf) (bs0 : List Nat) (w : World) : Prop := BxM M bs0 w ∧ ∀ x ∈ m0, x.L w
structure Runs (P : Program) (C : Cx) (Q : Exit → Act → World → Prop) (c : Cfg) : Prop where
  o : ∀ bs a w, At C bs c.st a w → match c.hd.k with
  | 0 => ex P Q c.r .normal a w
  | 1 => wpList P c.hd.ops (ex P Q c.r) c.hd.l a w
  | _ => ∀ bs0, (∃ nb, bs = bs0 ++ nb) → c.hd.M.length = bs0.length → BxM c.hd.M bs0 w → (∀ x ∈ c.hd.m0, x.L w ∧ ∀ b ∈ bs, x.O b) → wpAnyH P .any c.hd.ops (NoPanic (ex P Q c.r)) (SM c.hd.M c.hd.m0 bs0) c.hd.fu c.hd.li a w

def putD (n : Nat) (d : Option Nat) (x : SV) (st : SS) : Option SS :=
  match d with
  | some d => bif Nat.blt d n then some ⟨(d, x) :: st.s, st.b, st.m⟩ else none
  | none => some st
def aggL : Value → Option (List Value)
  | .agg vs => some vs.toList
  | _ => none
theorem aggL_ok {v : Value} {vs : List Value} (h : aggL v = some vs) : v = .agg vs.toArray := by
  unfold aggL at h
  split at h
  · cases h; simp
  · cases h
def storeS (P : Program) (B : List (List Value)) (T : Nat) (x y : SV) : Option (List (List Value)) :=
  bif isB x then (B[x.k]?).bind fun us => (plain y).bind fun v =>
    match tyK P T with
    | some 0 => bif v.oneCell' && Nat.blt x.o us.length then some (B.set x.k (us.set x.o v)) else none
    | some (k + 1) => (aggL v).bind fun vs => bif Nat.beq vs.length k && (vs.all (·.oneCell') && Nat.ble (x.o + vs.length) us.length) then some (B.set x.k (us.take x.o ++ vs ++ us.drop (x.o + vs.length))) else none
    | none => none
  else none
/-- An operation, reckoned. -/
def exO (P : Program) (n : Nat) (o : Oper) (st : SS) : Option SS :=
  match o.op with
  | .store T x y => bif o.dst.isNone then (evS st.s x).bind fun p => (evS st.s y).bind fun q => (storeS P st.b T p q).map fun B => ⟨st.s, B, st.m⟩ else none
  | .alloc T => (zOf P T).bind fun zs => putD n o.dst (bx st.b.length 0) ⟨st.s, st.b ++ [zs.toList], st.m⟩
  | .box _ x => (evV st.s x).bind fun v => putD n o.dst (bx st.b.length 0) ⟨st.s, st.b ++ [v.cells.toList], st.m⟩
  | op => (pvS P st.s st.b op).bind fun y => putD n o.dst y st
def udv : SV := ⟨0, 0, 0, undef, 3⟩
/-- Whether an operation is wanted: 1 yes, 2 no, 0 not known. -/
def wnt (ops : Array Oper) (o : Oper) (s : List (Nat × SV)) : Nat :=
  match o.guard with
  | none => 1
  | some (j, want) => match ((ops[j]?).bind (·.dst)).bind fun t => s.lookup t with
    | some y => match y.q with
      | 1 => bif want then 1 else 2
      | 2 => bif want then 2 else 1
      | 3 => 2
      | _ => 0
    | none => 0
def ex1 (P : Program) (n : Nat) (ops : Array Oper) (o : Oper) (st : SS) : Option SS :=
  match wnt ops o st.s with
  | 1 => exO P n o st
  | 2 => putD n o.dst udv st
  | _ => none
def dOne (P : Program) (n : Nat) (ops : Array Oper) (M : List (List Value)) (o : Oper) (st : SS) : Option SS :=
  match wnt ops o st.s with
  | 1 => (pvS P st.s M o.op).bind fun y => putD n o.dst y st
  | 2 => putD n o.dst udv st
  | _ => none
section
variable {P : Program} {C : Cx} {bs : List Nat} {st st' : SS} {a : Act} {w : World} {o : Oper} {K : Act → World → Prop} {Q : Exit → Act → World → Prop} {ops : Array Oper} {rest : List Oper}
theorem putD_ok {d : Option Nat} {x : SV} (A : At C bs st a w) (hx : x.ok st.b.length) (h : putD C.n d x st = some st') : At C bs st' (a.put d (x.den bs)) w ∧ st'.b = st.b ∧ st'.m = st.m := by
  unfold putD at h
  cases d with
  | none => cases h; exact ⟨A, rfl, rfl⟩
  | some d =>
    simp only at h
    cases hd : Nat.blt d C.n with
    | false => rw [hd] at h; cases h
    | true =>
      rw [hd] at h
      cases h
      exact ⟨A.put (Nat.le_of_ble_eq_true hd) hx, rfl, rfl⟩
theorem At.new {d : Option Nat} {vs : List Value} {T : TypeId} (A : At C bs st a w) (h : putD C.n d (bx st.b.length 0) ⟨st.s, st.b ++ [vs], st.m⟩ = some st') : At C (bs ++ [w.heap.size]) st' (a.put d (.pointer (some ⟨w.heap.size, 0, none⟩))) (w.alloc (.cells vs.toArray T)) ∧ st'.b = st.b ++ [vs] ∧ st'.m = st.m := by
  have h2 := putD_ok (A.alloc vs T) (x := bx st.b.length 0) (bx_ok (by simp)) h
  have e : (bx st.b.length 0).den (bs ++ [w.heap.size]) = .pointer (some ⟨w.heap.size, 0, none⟩) := by
    unfold SV.den bx isB
    rw [← A.b.l]
    simp
  rw [e] at h2
  exact h2
theorem udv_ok (m : Nat) : udv.ok m := ⟨fun e => (nomatch e), ⟨fun e => (nomatch e), fun e => (nomatch e)⟩, fun _ => ⟨rfl, rfl⟩⟩
theorem yld {j t : Nat} {b : Bool} (h1 : (ops[j]?).bind (·.dst) = some t) (hv : a.tmps.getD t undef = .bool b) : yielded ops a.tmps j = some b := by
  unfold yielded
  rw [h1]
  simp only [Option.bind_some]
  cases e : a.tmps[t]? with
  | none => rw [Array.getD_eq_getD_getElem?, e] at hv; cases hv
  | some u =>
    rw [Array.getD_eq_getD_getElem?, e] at hv
    simp only [Option.getD_some] at hv
    rw [hv]
theorem yld_none {j t : Nat} (h1 : (ops[j]?).bind (·.dst) = some t) (hv : a.tmps.getD t undef = undef) : yielded ops a.tmps j = none := by
  unfold yielded
  rw [h1]
  simp only [Option.bind_some]
  cases e : a.tmps[t]? with
  | none => rfl
  | some u =>
    rw [Array.getD_eq_getD_getElem?, e] at hv
    simp only [Option.getD_some] at hv
    rw [hv]
    rfl
theorem wnt_ok (A : At C bs st a w) : (wnt ops o st.s = 1 → Region.wanted o (yielded ops a.tmps) = true) ∧ (wnt ops o st.s = 2 → Region.wanted o (yielded ops a.tmps) = false) := by
  unfold wnt
  split
  next hg => exact ⟨fun _ => by simp [Region.wanted, hg], fun e => (nomatch e)⟩
  next j want hg =>
    split
    next y hy =>
      obtain ⟨t, h1, h2⟩ := Option.bind_eq_some_iff.1 hy
      obtain ⟨g1, g2⟩ := A.f.g t y h2
      obtain ⟨qt, qf⟩ := qv g2 bs
      split
      next e =>
        have hyl := yld (ops := ops) h1 (g1.trans (qt e))
        cases want
        · exact ⟨fun e => (nomatch e), fun _ => by simp [Region.wanted, hg, hyl]⟩
        · exact ⟨fun _ => by simp [Region.wanted, hg, hyl], fun e => (nomatch e)⟩
      next e =>
        have hyl := yld (ops := ops) h1 (g1.trans (qf e))
        cases want
        · exact ⟨fun _ => by simp [Region.wanted, hg, hyl], fun e => (nomatch e)⟩
        · exact ⟨fun e => (nomatch e), fun _ => by simp [Region.wanted, hg, hyl]⟩
      next e =>
        obtain ⟨u1, u2⟩ := g2.u e
        have hyl := yld_none (ops := ops) h1 (g1.trans (by unfold SV.den; rw [u1, u2]; rfl))
        exact ⟨fun e => (nomatch e), fun _ => by simp [Region.wanted, hg, hyl]⟩
      · exact ⟨fun e => (nomatch e), fun e => (nomatch e)⟩
    · exact ⟨fun e => (nomatch e), fun e => (nomatch e)⟩
/-- Of what is hidden in M only, something is written. -/
def actOk (M : List (List Value)) (o : Oper) (s : List (Nat × SV)) : Bool :=
  match o.op with
  | .store _ x _ => match evS s x with
    | some p => match M[p.k]? with
      | some (_ :: _) => false
      | _ => true
    | none => true
  | _ => true
/-- The boxes that M tells of are as they were. -/
def Stay (M : List (List Value)) (bs : List Nat) (w w' : World) : Prop := ∀ k v vs, M[k]? = some (v :: vs) → k < bs.length → w'.heap[bs.getD k 0]? = w.heap[bs.getD k 0]?
theorem Stay.below {M : List (List Value)} {w' : World} {B : List (List Value)} (hb : Bk bs B w) (h : Below w.heap.size w w') : Stay M bs w w' := fun _ _ _ _ hk => h.block _ (hb.mem _ (getD_mem hk))
theorem pure_ok {M : List (List Value)} {op : Op} (ho : o.op = op) (A : At C bs st a w) (h : ((pvS P st.s st.b op).bind fun y => putD C.n o.dst y st) = some st') (hK : ∀ bs' a' w', At C bs' st' a' w' → Tch bs bs' w w' → Stay M bs w w' → K a' w') : o.wp P a w K Q := by
  obtain ⟨y, h1, h2⟩ := Option.bind_eq_some_iff.1 h
  rw [← ho] at h1
  obtain ⟨r1, r2⟩ := pvS_ok (P := P) A.f A.b.b h1
  unfold Oper.wp
  rw [r1, Oper.upon_value]
  exact hK bs _ w (putD_ok A r2 h2).1 (Tch.refl _ _) (fun _ _ _ _ _ => rfl)
theorem all_oneCell {vs : List Value} (h : ∀ v ∈ vs, v.oneCell' = true) : vs.toArray.all (·.oneCell') = true := by simpa using h
theorem store1 {T : TypeId} {x y : Operand} {b i : Nat} {u v : Value} (hd : o.dst = none) (ho : o.op = .store T x y) (hx : a.eval x = .pointer (some ⟨b, i, none⟩)) (hy : a.eval y = v) (hc : w.cell? ⟨b, i, none⟩ = some u) (hf : w.frozen? ⟨b, i, none⟩ = false) (h1 : v.oneCell' = true) (hi : (P.info? T).map (·.size) = some 1) (h : K a (w.setCell ⟨b, i, none⟩ v)) : o.wp P a w K Q := by
  have hcells : v.cells = #[v] := by cases v <;> first | rfl | cases h1
  have hst := run_storeCells_cells (P := P) b i [v] 0 w (fun j hj => by
    have : j = 0 := by simpa using hj
    subst this
    simp [hc]) (fun j hj => by
    have : j = 0 := by simpa using hj
    subst this
    simpa using hf) (fun x hx => by simp at hx; subst hx; exact h1)
  cases hq : P.info? T with
  | none => simp [hq] at hi
  | some t =>
    have hs : t.size = 1 := by simpa [hq] using hi
    simp only [Nat.add_zero] at hst
    have hrun : (execOp a.eval o).run P w = .ok (.value undef) (w.setCell ⟨b, i, none⟩ v) ∨ (execOp a.eval o).run P w = .ok .skip (w.setCell ⟨b, i, none⟩ v) := by
      unfold execOp
      simp [ho, hx, hy, Instr.storeAt, Instr.sureAddr, storeVar, sizeOf, typeInfo, hq, hcells, hs, hst, World.setCells, Result.andThen]
    unfold Oper.wp
    rcases hrun with e | e
    · rw [e, Oper.upon_value, hd]
      exact h
    · rw [e, Oper.upon_skip, hd]
      exact h
theorem exO_ok {M : List (List Value)} (A : At C bs st a w) (h : exO P C.n o st = some st') (hM : actOk M o st.s = true) (hK : ∀ bs' a' w', At C bs' st' a' w' → Tch bs bs' w w' → Stay M bs w w' → K a' w') : o.wp P a w K Q := by
  unfold exO at h
  split at h
  next T x y ho =>
    cases hd : o.dst with
    | some d => rw [hd] at h; cases h
    | none =>
      rw [hd] at h
      simp only [Option.isNone_none, cond_true] at h
      obtain ⟨p, h1, h2⟩ := Option.bind_eq_some_iff.1 h
      obtain ⟨q, h3, h4⟩ := Option.bind_eq_some_iff.1 h2
      obtain ⟨B, h5, rfl⟩ := Option.map_eq_some_iff.1 h4
      obtain ⟨p1, p2⟩ := evS_ok A.f h1
      obtain ⟨q1, _⟩ := evS_ok A.f h3
      unfold storeS at h5
      cases hp : isB p with
      | false => rw [hp] at h5; cases h5
      | true =>
        rw [hp] at h5
        simp only [cond_true] at h5
        obtain ⟨us, h6, h7⟩ := Option.bind_eq_some_iff.1 h5
        obtain ⟨v, h8, h9⟩ := Option.bind_eq_some_iff.1 h7
        have hx : a.eval x = .pointer (some ⟨bs.getD p.k 0, p.o, none⟩) := by rw [p1]; unfold SV.den; rw [hp]; rfl
        have hy : a.eval y = v := by rw [q1, plain_ok h8]
        have hb := A.b.b p.k us h6
        have hk : p.k < bs.length := by rw [A.b.l]; exact p2.k hp
        have hst : ∀ w', Far (bs.getD p.k 0) w w' → Stay M bs w w' := fun w' f k u us' hm hk' => by
          refine f.bk _ (A.b.nd k p.k hk' hk (fun e => ?_))
          subst e
          unfold actOk at hM
          simp only [ho, h1, hm] at hM
          cases hM
        split at h9
        next ht =>
          obtain ⟨td, _, _, u3⟩ := tyK_cell ht
          cases hc : (v.oneCell' && Nat.blt p.o us.length) with
          | false => rw [hc] at h9; cases h9
          | true =>
            rw [hc] at h9
            cases h9
            obtain ⟨c1, c2⟩ := Bool.and_eq_true_iff.1 hc
            have hi : p.o < us.length := Nat.le_of_ble_eq_true c2
            refine store1 hd ho hx hy (hb.c p.o _ (List.getElem?_eq_getElem hi)) (hb.fz p.o) c1 u3 ?_
            exact hK bs a _ (A.boxes (by rw [List.length_set]) (A.b.set h6 (far_cell _ _ _ _) (hb.one hi v)) (Tch.far (getD_mem hk) (far_cell _ _ _ _))) (Tch.far (getD_mem hk) (far_cell _ _ _ _)) (hst _ (far_cell _ _ _ _))
        next k ht =>
          obtain ⟨td, _, _, u3⟩ := tyK_row ht
          obtain ⟨vs, h10, h11⟩ := Option.bind_eq_some_iff.1 h9
          cases hc : (Nat.beq vs.length k && (vs.all (·.oneCell') && Nat.ble (p.o + vs.length) us.length)) with
          | false => rw [hc] at h11; cases h11
          | true =>
            rw [hc] at h11
            cases h11
            obtain ⟨c1, c2⟩ := Bool.and_eq_true_iff.1 hc
            obtain ⟨c3, c4⟩ := Bool.and_eq_true_iff.1 c2
            have hi : p.o + vs.length ≤ us.length := Nat.le_of_ble_eq_true c4
            have hl : vs.length = k := Nat.eq_of_beq_eq_true c1
            have h1' : ∀ v ∈ vs, v.oneCell' = true := List.all_eq_true.1 c3
            refine wp_store_mid T x y ho (bs.getD p.k 0) p.o vs.toArray hx (by rw [hy, aggL_ok h10]) (fun j hj => ?_) (by rw [List.size_toArray, hl]; exact u3) (all_oneCell h1') ?_
            · rw [List.size_toArray] at hj
              rw [hb.c (p.o + j) _ (List.getElem?_eq_getElem (by omega))]
              exact ⟨rfl, hb.fz _⟩
            · rw [hd]
              exact hK bs a _ (A.boxes (by rw [List.length_set]) (A.b.set h6 (far_cells _ _ _ _) (hb.part vs hi)) (Tch.far (getD_mem hk) (far_cells _ _ _ _))) (Tch.far (getD_mem hk) (far_cells _ _ _ _)) (hst _ (far_cells _ _ _ _))
        · cases h9
  next T ho =>
    obtain ⟨zs, h1, h2⟩ := Option.bind_eq_some_iff.1 h
    obtain ⟨t, z, i1, i2, i3⟩ := zOf_parts h1
    unfold Oper.wp
    rw [r_al i1 i2 i3 ho, Oper.upon_value]
    have hn := A.new (T := T) h2
    rw [show zs.toList.toArray = zs by simp] at hn
    exact hK _ _ _ hn.1 (Tch.new _) (Stay.below A.b (alloc_below _ _))
  next T x ho =>
    obtain ⟨v, h1, h2⟩ := Option.bind_eq_some_iff.1 h
    unfold Oper.wp
    rw [r_bx ho (evV_ok A.f h1) rfl, Oper.upon_value]
    have hn := A.new (T := T) h2
    rw [show v.cells.toList.toArray = v.cells by simp] at hn
    exact hK _ _ _ hn.1 (Tch.new _) (Stay.below A.b (alloc_below _ _))
  · exact pure_ok rfl A h hK
theorem ex1_ok {M : List (List Value)} (A : At C bs st a w) (h : ex1 P C.n ops o st = some st') (hM : actOk M o st.s = true) (hK : ∀ bs' a' w', At C bs' st' a' w' → Tch bs bs' w w' → Stay M bs w w' → K a' w') : if Region.wanted o (yielded ops a.tmps) then o.wp P a w K Q else K (a.put o.dst undef) w := by
  unfold ex1 at h
  obtain ⟨w1, w2⟩ := wnt_ok (ops := ops) (o := o) A
  split at h
  next e => rw [if_pos (w1 e)]; exact exO_ok A h hM hK
  next e =>
    rw [if_neg (by rw [w2 e]; simp)]
    exact hK bs _ w (putD_ok A (udv_ok _) h).1 (Tch.refl _ _) (fun _ _ _ _ _ => rfl)
  · cases h
theorem dOne_ok {M : List (List Value)} {m0 : List Mf} {bs0 : List Nat} (A : At C bs st a w) (hp : ∃ nb, bs = bs0 ++ nb) (hl : M.length = bs0.length) (hS : SM M m0 bs0 w) (h : dOne P C.n ops M o st = some st') : ∃ v, YieldsIf P ops (SM M m0 bs0) o v a ∧ At C bs st' (a.put o.dst v) w := by
  have hgd : ∀ k, k < bs0.length → bs.getD k 0 = bs0.getD k 0 := fun k hk => by
    obtain ⟨nb, rfl⟩ := hp
    rw [List.getD_eq_getElem?_getD, List.getD_eq_getElem?_getD, List.getElem?_append_left hk]
  unfold dOne at h
  obtain ⟨w1, w2⟩ := wnt_ok (ops := ops) (o := o) A
  split at h
  next e =>
    obtain ⟨y, h1, h2⟩ := Option.bind_eq_some_iff.1 h
    have hr : ∀ w1, SM M m0 bs0 w1 → (execOp a.eval o).run P w1 = .ok (.value (y.den bs)) w1 ∧ y.ok st.b.length := fun w1 hS => pvS_ok A.f (fun k vs hv => by
      have hk : k < bs0.length := by rw [← hl]; exact (List.getElem?_eq_some_iff.1 hv).1
      rw [hgd k hk]
      exact hS.1 k vs hv) h1
    exact ⟨y.den bs, .inl ⟨w1 e, fun w1 hS => (hr w1 hS).1⟩, (putD_ok A (hr w hS).2 h2).1⟩
  next e => exact ⟨undef, .inr ⟨w2 e, rfl⟩, (putD_ok A (udv_ok _) h).1⟩
  · cases h
end
/-- Which boxes a region may write. -/
def isDst (t : Nat) (o : Oper) : Bool := match o.dst with | some d => Nat.beq d t | none => false
def rootS (ops : List Oper) (s : List (Nat × SV)) : Nat → Operand → Option Nat
  | f + 1, .tmp t => match ops.find? (isDst t) with
    | some o => match o.op with
      | .fieldAddr _ x _ => rootS ops s f x
      | .move x => rootS ops s f x
      | .assign x => rootS ops s f x
      | .nilCheck x => rootS ops s f x
      | _ => none
    | none => match s.lookup t with
      | some y => bif isB y then some y.k else none
      | none => none
  | _, _ => none
def wrS (ops : List Oper) (s : List (Nat × SV)) : List Nat :=
  ops.flatMap fun o => match o.op with
    | .store _ x _ => (rootS ops s 9 x).toList
    | .call c => c.args.toList.flatMap fun x => (rootS ops s 9 x).toList
    | _ => []
def mskF (ks : List Nat) : Nat → List (List Value) → List (List Value)
  | _, [] => []
  | i, b :: r => (bif ks.any (Nat.beq i) then [] else b) :: mskF ks (i + 1) r
theorem mskF_len (ks : List Nat) : ∀ (B : List (List Value)) (i : Nat), (mskF ks i B).length = B.length
  | [], _ => rfl
  | _ :: r, i => by rw [mskF, List.length_cons, List.length_cons, mskF_len ks r]
theorem mskF_at (ks : List Nat) : ∀ (B : List (List Value)) (i k : Nat) (vs : List Value), (mskF ks i B)[k]? = some vs → ∃ us, B[k]? = some us ∧ (vs = [] ∨ vs = us)
  | [], _, _, _, h => by simp [mskF] at h
  | b :: r, i, 0, vs, h => by
    simp only [mskF, List.getElem?_cons_zero, Option.some.injEq] at h
    refine ⟨b, rfl, ?_⟩
    cases e : ks.any (Nat.beq i) with
    | true => rw [e] at h; exact .inl h.symm
    | false => rw [e] at h; exact .inr h.symm
  | b :: r, i, k + 1, vs, h => by
    simp only [mskF, List.getElem?_cons_succ] at h ⊢
    exact mskF_at ks r (i + 1) k vs h
theorem bxM_start {bs : List Nat} {B : List (List Value)} {w : World} (h : Bk bs B w) (ks : List Nat) : BxM (mskF ks 0 B) bs w := fun k vs hv => by
  obtain ⟨us, h1, h2⟩ := mskF_at ks B 0 k vs hv
  have hb := h.b k us h1
  rcases h2 with rfl | rfl
  · exact hb.nil
  · exact hb
def rdy (hd : Hd) : List Nat := Region.ready .any hd.ops hd.li
def takeI (P : Program) (n : Nat) (hd : Hd) (st : SS) : List Nat → Option (Nat × SS)
  | [] => none
  | i :: r => match (hd.ops[i]?).bind fun o => dOne P n hd.ops hd.M o st with
    | some st' => bif Region.free .any hd.ops hd.li i then some (i, st') else takeI P n hd st r
    | none => takeI P n hd st r
def nxD (hd : Hd) (f i : Nat) : Hd := ⟨2, hd.ops, [], f, hd.li.setIfInBounds i true, hd.M, hd.m0⟩
def stepA (P : Program) (n : Nat) (c : Cfg) (f : Nat) : List Nat → Option Cfg
  | [i] => (c.hd.ops[i]?).bind fun o => bif actOk c.hd.M o c.st.s then (ex1 P n c.hd.ops o c.st).map fun st' => ⟨nxD c.hd f i, c.r, st'⟩ else none
  | _ => none
def stepD (P : Program) (n : Nat) (c : Cfg) : Option Cfg :=
  match rdy c.hd with
  | [] => some ⟨h0, c.r, c.st⟩
  | i :: rs => match c.hd.fu with
    | 0 => none
    | f + 1 => match bif Region.noSelect c.hd.ops then takeI P n c.hd c.st (i :: rs) else none with
      | some p => some ⟨nxD c.hd f p.1, c.r, p.2⟩
      | none => stepA P n c f (i :: rs)
def toBl (i : Nat) : List It → Option (List It)
  | [] => none
  | x :: r => match x.k with
    | 1 => bif Nat.beq i x.i then some r else toBl i r
    | _ => toBl i r
def hdP (ops : Array Oper) : Hd := ⟨1, ops, ops.toList, 0, #[], [], []⟩
def hdD (ops : Array Oper) (st : SS) : Hd := ⟨2, ops, [], ops.size, Array.replicate ops.size false, mskF (wrS ops.toList st.s) 0 st.b, st.m⟩
def stepC (c : Code) (r : List It) (st : SS) : Option Cfg :=
  match c with
  | .skip => some ⟨h0, r, st⟩
  | .label _ => some ⟨h0, r, st⟩
  | .seq x y => some ⟨h0, co x :: co y :: r, st⟩
  | .block i x => some ⟨h0, co x :: bl i :: r, st⟩
  | .exit i => (toBl i r).map fun r' => ⟨h0, r', st⟩
  | .region _ ops false => some ⟨hdP ops, r, st⟩
  | .region _ ops true => some ⟨hdD ops st, r, st⟩
  | .cond x t e => match evS st.s x with
    | some y => match y.q with
      | 1 => some ⟨h0, co t :: r, st⟩
      | 2 => some ⟨h0, co e :: r, st⟩
      | _ => none
    | none => none
  | _ => none
def step (P : Program) (n : Nat) (c : Cfg) : Option Cfg :=
  match c.hd.k with
  | 0 => match c.r with
    | [] => none
    | x :: r => match x.k with
      | 0 => stepC x.c r c.st
      | 1 => some ⟨h0, r, c.st⟩
      | _ => none
  | 1 => match c.hd.l with
    | [] => some ⟨h0, c.r, c.st⟩
    | o :: l => (ex1 P n c.hd.ops o c.st).map fun st' => ⟨⟨1, c.hd.ops, l, 0, #[], [], []⟩, c.r, st'⟩
  | _ => stepD P n c
def go (P : Program) (n : Nat) : Nat → Cfg → Cfg
  | 0, c => c
  | f + 1, c => match step P n c with
    | some c' => go P n f c'
    | none => c
section
variable {P : Program} {C : Cx} {Q : Exit → Act → World → Prop}
theorem actOk_nil (o : Oper) (s : List (Nat × SV)) : actOk [] o s = true := by
  unfold actOk
  split
  · split
    · simp
    · rfl
  · rfl
theorem ex_bl {x : It} {r : List It} {i : Nat} (hk : x.k = 1) : ex P Q (x :: r) (.exit i) = bif Nat.beq i x.i then ex P Q r .normal else ex P Q r (.exit i) := by
  conv => lhs; unfold ex
  rw [hk]
  rfl
theorem ex_ot {x : It} {r : List It} {i : Nat} (hk : x.k = 1 → False) : ex P Q (x :: r) (.exit i) = ex P Q r (.exit i) := by
  conv => lhs; unfold ex
  split <;> simp_all
theorem toBl_ok {i : Nat} : ∀ {r r' : List It}, toBl i r = some r' → ex P Q r (.exit i) = ex P Q r' .normal
  | [], _, h => by cases h
  | x :: r, r', h => by
    unfold toBl at h
    split at h
    next e =>
      rw [ex_bl e]
      cases hb : Nat.beq i x.i with
      | true => rw [hb] at h; cases h; rfl
      | false => rw [hb] at h; exact toBl_ok h
    next e => rw [ex_ot e]; exact toBl_ok h
theorem takeI_ok {n : Nat} {hd : Hd} {st : SS} : ∀ {rs : List Nat} {p : Nat × SS}, takeI P n hd st rs = some p → p.1 ∈ rs ∧ Region.free .any hd.ops hd.li p.1 = true ∧ ∃ o, hd.ops[p.1]? = some o ∧ dOne P n hd.ops hd.M o st = some p.2
  | [], _, h => by cases h
  | i :: r, p, h => by
    unfold takeI at h
    split at h
    next st' e =>
      cases hf : Region.free .any hd.ops hd.li i with
      | true =>
        rw [hf] at h
        cases h
        obtain ⟨o, h1, h2⟩ := Option.bind_eq_some_iff.1 e
        exact ⟨List.mem_cons_self, hf, o, h1, h2⟩
      | false =>
        rw [hf] at h
        obtain ⟨h1, h2⟩ := takeI_ok h
        exact ⟨List.mem_cons_of_mem _ h1, h2⟩
    · obtain ⟨h1, h2⟩ := takeI_ok h
      exact ⟨List.mem_cons_of_mem _ h1, h2⟩
/-- The invariant stays. -/
theorem bxM_on {M : List (List Value)} {bs0 bs bs' : List Nat} {w w' : World} {B : List (List Value)} (h : BxM M bs0 w) (hp : ∃ nb, bs = bs0 ++ nb) (hl : M.length = bs0.length) (hB : Bk bs' B w') (t : Tch bs bs' w w') (s : Stay M bs w w') : BxM M bs0 w' := fun k vs hv => by
  have hk0 : k < bs0.length := by rw [← hl]; exact (List.getElem?_eq_some_iff.1 hv).1
  obtain ⟨nb, rfl⟩ := hp
  have hk : k < (bs0 ++ nb).length := by rw [List.length_append]; omega
  have hg : (bs0 ++ nb).getD k 0 = bs0.getD k 0 := by rw [List.getD_eq_getElem?_getD, List.getD_eq_getElem?_getD, List.getElem?_append_left hk0]
  cases vs with
  | nil =>
    obtain ⟨nb', rfl, _⟩ := t.n
    have hk' : k < (bs0 ++ nb ++ nb').length := by rw [List.length_append]; omega
    have hg' : (bs0 ++ nb ++ nb').getD k 0 = bs0.getD k 0 := by rw [List.getD_eq_getElem?_getD, List.getD_eq_getElem?_getD, List.getElem?_append_left hk, List.getElem?_append_left hk0]
    have := (hB.b k _ (List.getElem?_eq_getElem (by rw [← hB.l]; exact hk'))).nil
    rwa [hg'] at this
  | cons v r =>
    have e := s k v r hv hk
    rw [hg] at e
    have hb := h k _ hv
    exact hb.far (fun j => World.cell?_of_block (w := w) e) (fun j => World.frozen?_of_block (w := w) e) t.bl.size
theorem pre_on {bs0 bs bs' : List Nat} {w w' : World} (hp : ∃ nb, bs = bs0 ++ nb) (t : Tch bs bs' w w') : ∃ nb, bs' = bs0 ++ nb := by
  obtain ⟨nb, rfl⟩ := hp
  obtain ⟨nb', rfl, _⟩ := t.n
  exact ⟨nb ++ nb', by simp⟩
theorem one_ok {ops : Array Oper} {Q' : Exit → Act → World → Prop} {S : World → Prop} {fuel : Nat} {listed : Array Bool} {a : Act} {w : World} {i : Nat} {o : Oper} (ho : ops[i]? = some o) (hr : Region.ready .any ops listed = [i])
    (h : ∀ K : Act → World → Prop, (∀ a w, S w → wpAnyH P .any ops Q' S fuel (listed.setIfInBounds i true) a w → K a w) → if Region.wanted o (yielded ops a.tmps) = true then o.wp P a w K Q' else K (a.put o.dst undef) w) : wpAnyH P .any ops Q' S (fuel + 1) listed a w :=
  wpAnyH_ready hr (by simp) (AllReadyH.cons ho (fun K hK => h K (fun a w hS hw => hK.out a w hS (fun _ => hw))) AllReadyH.nil)
theorem step_ok (hm : P.follows .mixedOrders = true) {c c' : Cfg} (h : step P C.n c = some c') (H : Runs P C Q c') : Runs P C Q c := by
  refine ⟨?_⟩
  intro bs a w A
  unfold step at h
  split at h
  next hk =>
    split at h
    · cases h
    next x r hr =>
      rw [hr]
      split at h
      next hx =>
        unfold ex
        rw [hx]
        show x.c.wp P (ex P Q r) a w
        have hH : ∀ {st : SS} {r' : List It}, c' = ⟨h0, r', st⟩ → At C bs st a w → ex P Q r' .normal a w := fun e A => by subst e; exact H.o bs a w A
        unfold stepC at h
        split at h
        next e => rw [e]; exact wp_skip (hH (Option.some.inj h).symm A)
        next e => rw [e]; exact wp_label (hH (Option.some.inj h).symm A)
        next x' y e =>
          rw [e]
          have := hH (Option.some.inj h).symm A
          refine wp_seq (Code.wp_mono ?_ this)
          intro e a w q
          cases e <;> exact q
        next i x' e =>
          rw [e]
          have := hH (Option.some.inj h).symm A
          refine wp_block (Code.wp_mono ?_ this)
          intro e a w q
          cases e with
          | exit j =>
            show (if j = i then ex P Q r .normal a w else ex P Q r (.exit j) a w)
            have q' : (bif Nat.beq j i then ex P Q r .normal else ex P Q r (.exit j)) a w := q
            by_cases hji : j = i
            · subst hji
              rw [if_pos rfl]
              simpa [Nat.beq_refl] using q'
            · rw [if_neg hji]
              have : Nat.beq j i = false := by
                cases hb : Nat.beq j i with
                | false => rfl
                | true => exact absurd (Nat.eq_of_beq_eq_true hb) hji
              rw [this] at q'
              exact q'
          | _ => exact q
        next i e =>
          rw [e]
          obtain ⟨r', h1, h2⟩ := Option.map_eq_some_iff.1 h
          refine wp_exit ?_
          rw [toBl_ok h1]
          exact hH h2.symm A
        next id ops e =>
          rw [e]
          have he := Option.some.inj h
          subst he
          have := H.o bs a w A
          exact wp_region_list this
        next id ops e =>
          rw [e]
          have he := Option.some.inj h
          subst he
          have Ad := A.keep (drew_below w)
          have hmx := A.m
          have := H.o bs a w.drew Ad bs ⟨[], by simp⟩ (by show (mskF _ 0 c.st.b).length = _; rw [mskF_len, A.b.l]) (bxM_start Ad.b _) Ad.m
          exact wp_region_noPanic (wp_region_held_drew hm ⟨bxM_start Ad.b _, fun x hx => (Ad.m x hx).1⟩ fun _ => this)
        next x' t e' e =>
          rw [e]
          split at h
          next y hy =>
            obtain ⟨e1, e2⟩ := evS_ok A.f hy
            obtain ⟨qt, qf⟩ := qv e2 bs
            split at h
            next hq => exact wp_cond_true (e1.trans (qt hq)) (hH (Option.some.inj h).symm A)
            next hq => exact wp_cond_false (e1.trans (qf hq)) (hH (Option.some.inj h).symm A)
            · cases h
          · cases h
        · cases h
      next hx =>
        unfold ex
        rw [hx]
        have he := Option.some.inj h
        subst he
        exact H.o bs a w A
      · cases h
  next hk =>
    split at h
    next hl =>
      have he := Option.some.inj h
      subst he
      rw [hl]
      exact H.o bs a w A
    next o l hl =>
      rw [hl]
      obtain ⟨st', h1, rfl⟩ := Option.map_eq_some_iff.1 h
      refine wpList_step fun K hK => ?_
      exact ex1_ok (M := []) A h1 (actOk_nil _ _) fun bs' a' w' A' _ _ => hK a' w' (H.o bs' a' w' A')
  next h0' h1' =>
    intro bs0 hp hl hB hF
    unfold stepD at h
    split at h
    next hr =>
      have he := Option.some.inj h
      subst he
      exact wpAnyH_done hr (NoPanic.normal (H.o bs a w A)) _
    next i rs hr =>
      split at h
      · cases h
      next f hf =>
        rw [hf]
        have hS : SM c.hd.M c.hd.m0 bs0 w := ⟨hB, fun x hx => (hF x hx).1⟩
        split at h
        next p hp' =>
          have he := Option.some.inj h
          subst he
          cases hn : Region.noSelect c.hd.ops with
          | false => rw [hn] at hp'; cases hp'
          | true =>
            rw [hn] at hp'
            obtain ⟨h1, h2, o, h3, h4⟩ := takeI_ok hp'
            obtain ⟨v, hy, A'⟩ := dOne_ok A hp hl hS h4
            refine wpAnyH_take h3 hn h2 (by show (Region.ready _ _ _).contains _ = true; rw [show Region.ready .any c.hd.ops c.hd.li = i :: rs from hr]; simpa using h1) (fun _ _ _ h => h) hy hS ?_
            exact H.o bs _ w A' bs0 hp hl hB hF
        next hp' =>
          unfold stepA at h
          split at h
          next i' hi' =>
            obtain ⟨o, h1, h2⟩ := Option.bind_eq_some_iff.1 h
            cases hk' : actOk c.hd.M o c.st.s with
            | false => rw [hk'] at h2; cases h2
            | true =>
              rw [hk'] at h2
              obtain ⟨st', h3, rfl⟩ := Option.map_eq_some_iff.1 h2
              refine one_ok h1 (by rw [← hi', ← hr]; rfl) fun K hK => ?_
              refine ex1_ok A h3 hk' fun bs' a' w' A' t s => ?_
              have hB' := bxM_on hB hp hl A'.b t s
              have hF' := fun x hx => Mf.on (hF x hx) t
              exact hK a' w' ⟨hB', fun x hx => (hF' x hx).1⟩ (H.o bs' a' w' A' bs0 (pre_on hp t) hl hB' hF')
          · cases h
theorem go_ok (hm : P.follows .mixedOrders = true) : ∀ (k : Nat) {c : Cfg}, Runs P C Q (go P C.n k c) → Runs P C Q c
  | 0, _, H => H
  | k + 1, c, H => by
    unfold go at H
    split at H
    next c' e => exact step_ok hm e (go_ok hm k H)
    · exact H
end
end En
end Go.Proofs.Ytbpmcabeghbalaa
