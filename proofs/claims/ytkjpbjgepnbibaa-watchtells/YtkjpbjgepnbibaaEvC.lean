/- The second engine: what is carried out by itself. -/
import Derived.Test.YtkjpbjgepnbibaaEvO
namespace Go.Proofs.Ytkjpbjgepnbibaa
namespace Ev
open Go.RowKit
set_option maxRecDepth 100000

structure It where
  k : Nat
  i : Nat
  c : Code
  I : Act → World → Prop
def co (c : Code) : It := ⟨0, 0, c, fun _ _ => True⟩
def bl (i : Nat) : It := ⟨1, i, .skip, fun _ _ => True⟩
def lp (I : Act → World → Prop) : It := ⟨2, 0, .skip, I⟩
/-- What is to be shown ahead of this rest. -/
def ex (P : Program) (Q : Exit → Act → World → Prop) : List It → Exit → Act → World → Prop
  | [], e => Q e
  | x :: r, e => match x.k, e with
    | 0, .normal => x.c.wp P (ex P Q r)
    | 1, .exit i => bif Nat.beq i x.i then ex P Q r .normal else ex P Q r (.exit i)
    | 2, .normal => x.I
    | _, e => ex P Q r e
/-- Where in a region: no region (k = 0), one in order (1; l: what is to come), one that draws (2), one that draws in which operation i comes next (i + 3). -/
structure Hd where
  k : Nat
  ops : Array Oper
  l : List Oper
  fu : Nat
  li : Array Bool
  M : List Bx
  F : List Bx
  W : List Nat
  D : List Nat
  m0 : List Mf
def h0 : Hd := ⟨0, #[], [], 0, #[], [], [], [], [], []⟩
def hasN (l : List Nat) (i : Nat) : Bool := l.any (Nat.beq i)
def anyW (W : List Nat) (li : Array Bool) : Bool := W.any fun j => li.getD j false
/-- What boxes are known to hold: all, as long as nothing was written. -/
def mc (M F : List Bx) (W : List Nat) (li : Array Bool) : List Bx := bif anyW W li then M else F
structure Cfg where
  hd : Hd
  r : List It
  st : SS
/-- Boxes of cells stay such. -/
def Ce (B B' : List Bx) : Prop := ∀ (k : Nat) (us : List SV), B[k]? = some (Bx.cells us) → ∃ us', B'[k]? = some (Bx.cells us')
def BxM (M : List Bx) (bs0 : List Blk) (w : World) : Prop := ∀ k us, M[k]? = some (.cells us) → ∃ X, (bkA bs0 k).a = some X ∧ BoxL w X (denL bs0 us) ∧ okL bs0.length us = true
def SL (hd : Hd) (bs0 : List Blk) (li : Array Bool) (w : World) : Prop := BxM (mc hd.M hd.F hd.W li) bs0 w ∧ ∀ x ∈ hd.m0, x.L w
structure Runs (P : Program) (C : Cx) (Q : Exit → Act → World → Prop) (c : Cfg) : Prop where
  o : ∀ bs a w, At C bs c.st a w → match c.hd.k with
  | 0 => ex P Q c.r .normal a w
  | 1 => wpList P c.hd.ops (ex P Q c.r) c.hd.l a w
  | 2 => ∀ bs0, (∃ nb, bs = bs0 ++ nb) → c.hd.M.length = bs0.length → c.hd.F.length = bs0.length → (∀ w, BxM c.hd.F bs0 w → BxM c.hd.M bs0 w) → BxM (mc c.hd.M c.hd.F c.hd.W c.hd.li) bs0 w → (∀ x ∈ c.hd.m0, Lies C.Z bs c.st.b w x) → Ce c.hd.F c.st.b → Ce c.hd.M c.hd.F → wpAnyL P c.hd.ops (NoPanic (ex P Q c.r)) (SL c.hd bs0) c.hd.fu c.hd.li a w
  | i + 3 => ∀ bs0, (∃ nb, bs = bs0 ++ nb) → c.hd.M.length = bs0.length → c.hd.F.length = bs0.length → (∀ w, BxM c.hd.F bs0 w → BxM c.hd.M bs0 w) → BxM (mc c.hd.M c.hd.F c.hd.W c.hd.li) bs0 w → (∀ x ∈ c.hd.m0, Lies C.Z bs c.st.b w x) → Ce c.hd.F c.st.b → Ce c.hd.M c.hd.F → ∀ f, c.hd.fu = f + 1 → wpOp P c.hd.ops (NoPanic (ex P Q c.r)) i (fun a' w' => SL c.hd bs0 (c.hd.li.setIfInBounds i true) w' ∧ wpAnyL P c.hd.ops (NoPanic (ex P Q c.r)) (SL c.hd bs0) f (c.hd.li.setIfInBounds i true) a' w') a w

def putD (n : Nat) (d : Option Nat) (x : SV) (st : SS) : Option SS :=
  match d with
  | some d => bif Nat.blt d n then some ⟨(d, x) :: st.s, st.b, st.m⟩ else none
  | none => some st
def oneC : SV → Bool
  | .val v => v.oneCell'
  | .num _ => true
  | .bit _ => true
  | .ptr _ _ => true
  | .row _ _ => true
  | .fn _ _ _ => true
  | _ => false
theorem oneC_ok {x : SV} (h : oneC x = true) (bs : List Blk) : (x.den bs).oneCell' = true := by
  cases x with
  | val v => simpa only [SV.den, oneC] using h
  | num n => simp only [SV.den]; rfl
  | bit n => simp only [SV.den]; rfl
  | ptr k o => simp only [SV.den]; rfl
  | row k n => simp only [SV.den]; rfl
  | fn g x y => simp only [SV.den]; rfl
  | non => cases h
  | agg l => cases h
  | tup l => cases h
theorem oneC_all {l : List SV} (h : l.all oneC = true) (bs : List Blk) : ∀ v ∈ denL bs l, v.oneCell' = true := by
  intro v hv
  rw [denL_map] at hv
  obtain ⟨x, hx, rfl⟩ := List.mem_map.1 hv
  exact oneC_ok (List.all_eq_true.1 h x hx) bs
def storeS (P : Program) (B : List Bx) (T : Nat) (x y : SV) : Option (List Bx) :=
  match x with
  | .ptr k o => match B[k]? with
    | some (.cells us) => match tyK P T with
      | some 0 => bif oneC y && Nat.blt o us.length then some (B.set k (.cells (us.set o y))) else none
      | some (z + 1) => (cellsS y).bind fun vs => bif Nat.beq vs.length z && (vs.all oneC && Nat.ble (o + vs.length) us.length) then some (B.set k (.cells (us.take o ++ vs ++ us.drop (o + vs.length)))) else none
      | none => none
    | _ => none
  | _ => none
/-- The parts of a slice that is laid, in order. -/
def bsL (size : Nat) : Nat → List (Nat × SV) → Option (List Value)
  | _, [] => some []
  | i, p :: r => bif Nat.beq p.1 i then (plain p.2).bind fun v => bif Nat.beq v.cells.toList.length size then (bsL size (i + 1) r).map fun l => v.cells.toList ++ l else none else none
def eltS (P : Program) (t : Nat) : Option (TypeId × Nat) :=
  match P.underlying t with
  | some (.slice e) => match P.info? e with
    | some i => match i.zero with
      | some z => bif Nat.beq z.cells.toList.length i.size && Nat.blt 0 i.size then some (e, i.size) else none
      | none => none
    | none => none
  | _ => none
def bsS (P : Program) (t len : Nat) (s : List (Nat × SV)) (ps : List (Nat × Operand)) : Option (TypeId × Nat × List Value) :=
  (eltS P t).bind fun q => (partsS s ps).bind fun qs => bif Nat.beq qs.length len && Nat.ble (len * q.2) 16777216 then (bsL q.2 0 qs).map fun l => (q.1, q.2, l) else none
/-- An operation, reckoned. -/
def exO (P : Program) (n : Nat) (o : Oper) (st : SS) : Option SS :=
  match o.op with
  | .store T x y => bif o.dst.isNone then (evS st.s x).bind fun p => (evS st.s y).bind fun q => (storeS P st.b T p q).map fun B => ⟨st.s, B, st.m⟩ else none
  | .alloc T => (zOf P T).bind fun zs => putD n o.dst (.ptr st.b.length 0) ⟨st.s, st.b ++ [.cells (zs.toList.map litV)], st.m⟩
  | .box _ x => (evS st.s x).bind fun v => (cellsS v).bind fun l => putD n o.dst (.ptr st.b.length 0) ⟨st.s, st.b ++ [.cells l], st.m⟩
  | .buildSlice t len ps => (bsS P t len st.s ps.toList).bind fun q => putD n o.dst (.row st.b.length len) ⟨st.s, st.b ++ [.row q.1 q.2.1 len q.2.2], st.m⟩
  | op => (pvS P st.s st.b op).bind fun y => putD n o.dst y st
/-- Whether an operation is wanted: 1 yes, 2 no, 0 not known. -/
def wnt (ops : Array Oper) (o : Oper) (s : List (Nat × SV)) : Nat :=
  match o.guard with
  | none => 1
  | some (j, want) => match ((ops[j]?).bind (·.dst)).bind fun t => s.lookup t with
    | some y => match y with
      | .bit b => bif b then bif want then 1 else 2 else bif want then 2 else 1
      | .non => 2
      | _ => 0
    | none => 0
def ex1 (P : Program) (n : Nat) (ops : Array Oper) (o : Oper) (st : SS) : Option SS :=
  match wnt ops o st.s with
  | 1 => exO P n o st
  | 2 => putD n o.dst .non st
  | _ => none
def dOne (P : Program) (n : Nat) (ops : Array Oper) (M : List Bx) (o : Oper) (st : SS) : Option SS :=
  match wnt ops o st.s with
  | 1 => (pvS P st.s M o.op).bind fun y => putD n o.dst y st
  | 2 => putD n o.dst .non st
  | _ => none
section
variable {P : Program} {C : Cx} {bs : List Blk} {st st' : SS} {a : Act} {w : World} {o : Oper} {K : Act → World → Prop} {Q : Exit → Act → World → Prop} {ops : Array Oper} {rest : List Oper}
theorem putD_ok {d : Option Nat} {x : SV} (A : At C bs st a w) (hx : okB bs.length x = true) (h : putD C.n d x st = some st') : At C bs st' (a.put d (x.den bs)) w ∧ st'.b = st.b ∧ st'.m = st.m := by
  unfold putD at h
  cases d with
  | none => cases h; exact ⟨A, rfl, rfl⟩
  | some d =>
    simp only at h
    cases hd : Nat.blt d C.n with
    | false => rw [hd] at h; cases h
    | true =>
      rw [hd] at h
      cases h
      exact ⟨A.put (Nat.le_of_ble_eq_true hd) hx, rfl, rfl⟩
theorem yld {j t : Nat} {b : Bool} (h1 : (ops[j]?).bind (·.dst) = some t) (hv : a.tmps.getD t undef = .bool b) : yielded ops a.tmps j = some b := by
  unfold yielded
  rw [h1]
  simp only [Option.bind_some]
  cases e : a.tmps[t]? with
  | none => rw [Array.getD_eq_getD_getElem?, e] at hv; cases hv
  | some u =>
    rw [Array.getD_eq_getD_getElem?, e] at hv
    simp only [Option.getD_some] at hv
    rw [hv]
theorem yld_none {j t : Nat} (h1 : (ops[j]?).bind (·.dst) = some t) (hv : a.tmps.getD t undef = undef) : yielded ops a.tmps j = none := by
  unfold yielded
  rw [h1]
  simp only [Option.bind_some]
  cases e : a.tmps[t]? with
  | none => rfl
  | some u =>
    rw [Array.getD_eq_getD_getElem?, e] at hv
    simp only [Option.getD_some] at hv
    rw [hv]
    rfl
theorem wnt_ok (A : At C bs st a w) : (wnt ops o st.s = 1 → Region.wanted o (yielded ops a.tmps) = true) ∧ (wnt ops o st.s = 2 → Region.wanted o (yielded ops a.tmps) = false) := by
  unfold wnt
  split
  next hg => exact ⟨fun _ => by simp [Region.wanted, hg], fun e => (nomatch e)⟩
  next j want hg =>
    split
    next y hy =>
      obtain ⟨t, h1, h2⟩ := Option.bind_eq_some_iff.1 hy
      obtain ⟨g1, g2⟩ := A.f.g t y h2
      split
      next b =>
        simp only [SV.den] at g1
        have hyl := yld (ops := ops) h1 g1
        cases b <;> cases want
        · exact ⟨fun _ => by simp [Region.wanted, hg, hyl], fun e => (nomatch e)⟩
        · exact ⟨fun e => (nomatch e), fun _ => by simp [Region.wanted, hg, hyl]⟩
        · exact ⟨fun e => (nomatch e), fun _ => by simp [Region.wanted, hg, hyl]⟩
        · exact ⟨fun _ => by simp [Region.wanted, hg, hyl], fun e => (nomatch e)⟩
      next =>
        simp only [SV.den] at g1
        have hyl := yld_none (ops := ops) h1 g1
        exact ⟨fun e => (nomatch e), fun _ => by simp [Region.wanted, hg, hyl]⟩
      · exact ⟨fun e => (nomatch e), fun e => (nomatch e)⟩
    · exact ⟨fun e => (nomatch e), fun e => (nomatch e)⟩
/-- Of what is hidden in M only, something is written. -/
def actOk (M : List Bx) (o : Oper) (s : List (Nat × SV)) : Bool :=
  match o.op with
  | .store _ x _ => match evS s x with
    | some (.ptr k _) => match M[k]? with
      | some (.cells _) => false
      | _ => true
    | _ => true
  | _ => true
/-- The boxes that M tells of are as they were; boxes of cells stay such. -/
structure Sty (M : List Bx) (bs bs' : List Blk) (B B' : List Bx) (w w' : World) : Prop where
  st : ∀ k us X, M[k]? = some (.cells us) → live bs B k = some X → w'.heap[X]? = w.heap[X]?
  ce : Ce B B'
  nl : ∀ k X, live bs' B' k = some X → (∃ j, live bs B j = some X) ∨ w.heap.size ≤ X
theorem Ce.refl (B : List Bx) : Ce B B := fun _ us h => ⟨us, h⟩
theorem Ce.app (B nB : List Bx) : Ce B (B ++ nB) := fun _ us h => ⟨us, by rw [List.getElem?_append_left (List.getElem?_eq_some_iff.1 h).1]; exact h⟩
theorem Ce.set {B : List Bx} {k : Nat} {us us' : List SV} (h : B[k]? = some (.cells us)) : Ce B (B.set k (.cells us')) := fun j vs hj => by
  rw [List.getElem?_set]
  split
  next e =>
    subst e
    rw [if_pos (List.getElem?_eq_some_iff.1 h).1]
    exact ⟨us', rfl⟩
  next e => exact ⟨vs, hj⟩
theorem Ce.trans {B1 B2 B3 : List Bx} (h1 : Ce B1 B2) (h2 : Ce B2 B3) : Ce B1 B3 := fun k us h => by
  obtain ⟨vs, hv⟩ := h1 k us h
  exact h2 k vs hv
theorem Sty.refl (M : List Bx) (bs : List Blk) (B : List Bx) (w : World) : Sty M bs bs B B w w := ⟨fun _ _ _ _ _ => rfl, Ce.refl B, fun k _ h => .inl ⟨k, h⟩⟩
theorem Sty.keep {M : List Bx} {B : List Bx} {w' : World} (hb : Bk bs B w) (h : Below w.heap.size w w') : Sty M bs bs B B w w' := ⟨fun _ _ _ _ hX => h.block _ (hb.lt hX), Ce.refl B, fun k _ h => .inl ⟨k, h⟩⟩
theorem Sty.newB {M : List Bx} {B : List Bx} {w' : World} {b : Blk} {x : Bx} (hb : Bk bs B w) (h : Below w.heap.size w w') (hn : ∀ X, x.bl b = some X → w.heap.size ≤ X) : Sty M bs (bs ++ [b]) B (B ++ [x]) w w' :=
  ⟨fun _ _ _ _ hX => h.block _ (hb.lt hX), Ce.app _ _, fun k X hX => by
    rcases live_more hb.l hX with ⟨_, h1⟩ | ⟨_, h1⟩
    · exact .inl ⟨k, h1⟩
    · exact .inr (hn X h1)⟩
theorem cells_at {B : List Bx} (h : Bk bs B w) : ∀ k us, B[k]? = some (.cells us) → ∃ X, (bkA bs k).a = some X ∧ BoxL w X (denL bs us) ∧ okL bs.length us = true := fun k us hk => by
  obtain ⟨X, h1, h2⟩ := (h.b k _ hk).o
  exact ⟨X, h1, h2, h.ok _ (List.mem_of_getElem? hk)⟩
theorem pure_ok {M : List Bx} {op : Op} (ho : o.op = op) (A : At C bs st a w) (h : ((pvS P st.s st.b op).bind fun y => putD C.n o.dst y st) = some st') (hK : ∀ bs' a' w', At C bs' st' a' w' → Stp bs bs' (lvs bs st.b) w w' → Sty M bs bs' st.b st'.b w w' → K a' w') : o.wp P a w K Q := by
  obtain ⟨y, h1, h2⟩ := Option.bind_eq_some_iff.1 h
  rw [← ho] at h1
  obtain ⟨r1, r2⟩ := pvS_ok (P := P) A.f (cells_at A.b) h1
  unfold Oper.wp
  rw [r1, Oper.upon_value]
  obtain ⟨p1, p2, _⟩ := putD_ok A r2 h2
  exact hK bs _ w p1 (Stp.refl _ _ _) (by rw [p2]; exact Sty.refl _ _ _ _)
theorem all_oneCell {vs : List Value} (h : ∀ v ∈ vs, v.oneCell' = true) : vs.toArray.all (·.oneCell') = true := by simpa using h
theorem store1 {T : TypeId} {x y : Operand} {b i : Nat} {u v : Value} (hd : o.dst = none) (ho : o.op = .store T x y) (hx : a.eval x = .pointer (some ⟨b, i, none⟩)) (hy : a.eval y = v) (hc : w.cell? ⟨b, i, none⟩ = some u) (hf : w.frozen? ⟨b, i, none⟩ = false) (h1 : v.oneCell' = true) (hi : (P.info? T).map (·.size) = some 1) (h : K a (w.setCell ⟨b, i, none⟩ v)) : o.wp P a w K Q := by
  have hcells : v.cells = #[v] := by cases v <;> first | rfl | cases h1
  have hst := run_storeCells_cells (P := P) b i [v] 0 w (fun j hj => by
    have : j = 0 := by simpa using hj
    subst this
    simp [hc]) (fun j hj => by
    have : j = 0 := by simpa using hj
    subst this
    simpa using hf) (fun x hx => by simp at hx; subst hx; exact h1)
  cases hq : P.info? T with
  | none => simp [hq] at hi
  | some t =>
    have hs : t.size = 1 := by simpa [hq] using hi
    simp only [Nat.add_zero] at hst
    have hrun : (execOp a.eval o).run P w = .ok (.value undef) (w.setCell ⟨b, i, none⟩ v) ∨ (execOp a.eval o).run P w = .ok .skip (w.setCell ⟨b, i, none⟩ v) := by
      unfold execOp
      simp [ho, hx, hy, Instr.storeAt, Instr.sureAddr, storeVar, sizeOf, typeInfo, hq, hcells, hs, hst, World.setCells, Result.andThen]
    unfold Oper.wp
    rcases hrun with e | e
    · rw [e, Oper.upon_value, hd]
      exact h
    · rw [e, Oper.upon_skip, hd]
      exact h
theorem bsL_ok {size : Nat} (bs : List Blk) : ∀ {i : Nat} {qs : List (Nat × SV)} {l : List Value}, bsL size i qs = some l →
    (qs.map fun p => (p.1, p.2.den bs)) = ((qs.map fun p => p.2.den bs).zipIdx i).map (fun x => (x.2, x.1)) ∧ (∀ v ∈ qs.map (fun p => p.2.den bs), v.cells.size = size) ∧ l = (qs.map fun p => p.2.den bs).flatMap (fun v => v.cells.toList)
  | i, [], l, h => by cases h; exact ⟨rfl, by simp, rfl⟩
  | i, p :: r, l, h => by
    unfold bsL at h
    cases hb : Nat.beq p.1 i with
    | false => rw [hb] at h; cases h
    | true =>
      rw [hb] at h
      simp only [cond_true] at h
      obtain ⟨v, h1, h2⟩ := Option.bind_eq_some_iff.1 h
      cases hc : Nat.beq v.cells.toList.length size with
      | false => rw [hc] at h2; cases h2
      | true =>
        rw [hc] at h2
        simp only [cond_true] at h2
        obtain ⟨l', h3, rfl⟩ := Option.map_eq_some_iff.1 h2
        obtain ⟨e1, e2, e3⟩ := bsL_ok bs h3
        have e0 := plain_ok (bs := bs) h1
        refine ⟨?_, fun u hu => ?_, ?_⟩
        · rw [List.map_cons, List.map_cons, List.zipIdx_cons, List.map_cons, e1, Nat.eq_of_beq_eq_true hb]
        · rw [List.map_cons] at hu
          rcases List.mem_cons.1 hu with rfl | hu
          · rw [e0]
            have := Nat.eq_of_beq_eq_true hc
            simpa using this
          · exact e2 u hu
        · rw [List.map_cons, List.flatMap_cons, ← e3, e0]
theorem flat_len {size : Nat} : ∀ {vs : List Value}, (∀ v ∈ vs, v.cells.size = size) → (vs.flatMap fun v => v.cells.toList).length = vs.length * size
  | [], _ => by simp
  | v :: r, h => by
    rw [List.flatMap_cons, List.length_append, flat_len fun u hu => h u (List.mem_cons_of_mem _ hu), List.length_cons, Nat.add_mul, Nat.one_mul]
    have := h v (List.mem_cons_self ..)
    simp [this]
    omega
theorem eltS_ok {t e z : Nat} (h : eltS P t = some (e, z)) : ∃ i v, P.underlying t = some (.slice e) ∧ P.info? e = some i ∧ i.zero = some v ∧ i.size = z ∧ v.cells.size = z ∧ 0 < z := by
  unfold eltS at h
  split at h
  next e' hu =>
    split at h
    next i hi =>
      split at h
      next v hz =>
        cases hb : (Nat.beq v.cells.toList.length i.size && Nat.blt 0 i.size) with
        | false => rw [hb] at h; cases h
        | true =>
          rw [hb] at h
          cases h
          obtain ⟨b1, b2⟩ := Bool.and_eq_true_iff.1 hb
          exact ⟨i, v, hu, hi, hz, rfl, by simpa using Nat.eq_of_beq_eq_true b1, Nat.le_of_ble_eq_true b2⟩
      · cases h
    · cases h
  · cases h
theorem bs_run {t len e z : Nat} {ps : Array (Nat × Operand)} {l : List Value} (A : Fr C.n bs st.s a) (ho : o.op = .buildSlice t len ps) (h : bsS P t len st.s ps.toList = some (e, z, l)) : (execOp a.eval o).run P w = .ok (.value (.slice (some ⟨w.heap.size, 0, none⟩) len len)) (w.alloc (.cells l.toArray e)) ∧ l.length = len * z ∧ len * z ≤ 16777216 := by
  unfold bsS at h
  obtain ⟨⟨e', z'⟩, h1, h2⟩ := Option.bind_eq_some_iff.1 h
  obtain ⟨qs, h3, h4⟩ := Option.bind_eq_some_iff.1 h2
  simp only at h4
  cases hb : (Nat.beq qs.length len && Nat.ble (len * z') 16777216) with
  | false => rw [hb] at h4; cases h4
  | true =>
    rw [hb] at h4
    obtain ⟨l', h5, h6⟩ := Option.map_eq_some_iff.1 h4
    cases h6
    obtain ⟨b1, b2⟩ := Bool.and_eq_true_iff.1 hb
    have b1 := Nat.eq_of_beq_eq_true b1
    have b2 := Nat.le_of_ble_eq_true b2
    obtain ⟨i, v, i1, i2, i3, i4, i5, i6⟩ := eltS_ok h1
    obtain ⟨e1, e2⟩ := partsS_ok A h3
    obtain ⟨f1, f2, f3⟩ := bsL_ok bs h5
    have hl : l.length = len * z := by rw [f3, flat_len f2, List.length_map, b1]
    refine ⟨?_, hl, b2⟩
    have hp : (ps.map fun x => (x.1, a.eval x.2)).toList = (((qs.map fun p => p.2.den bs)).zipIdx 0).map (fun x => (x.2, x.1)) := by rw [← f1, ← e1]; simp
    unfold execOp
    simp only [ho]
    cases len with
    | zero =>
      have hq : qs = [] := List.eq_nil_of_length_eq_zero b1
      have hl0 : l = [] := by rw [f3, hq]; rfl
      subst hl0
      have hps : (ps.map fun x => (x.1, a.eval x.2)).toList = [] := by rw [hp, hq]; rfl
      have hpe : (ps.map fun x => (x.1, a.eval x.2)) = #[] := by apply Array.ext'; simpa using hps
      rw [hpe]
      simp [Instr.buildSlice, run_underlying i1, sizeOf, typeInfo, i2, Instr.fill, newRow, Array.range_zero']
    | succ k =>
      have hf := Go.Great.fill_whole i6 (qs.map fun p => p.2.den bs) ((Array.range ((k + 1) * z)).map (v.cells[· % v.cells.size]!)) f2 (by simp [b1])
      have hr := run_buildSlice (P := P) w t e (k + 1) (ps.map fun x => (x.1, a.eval x.2)) l.toArray i v i1 i2 i3 (by rw [i4]; omega) (by rw [i4]; exact Nat.ne_of_gt (Nat.mul_pos (Nat.succ_pos k) i6)) (by rw [i4, hp, f3]; exact hf)
      simp only [Sem.run_bind, Sem.run_pure]
      rw [hr]
      rfl
theorem bs_small {t len e z : Nat} {s : List (Nat × SV)} {ps : List (Nat × Operand)} {l : List Value} (h : bsS P t len s ps = some (e, z, l)) (h2 : len * z ≤ 16777216) : len ≤ maxLen := by
  unfold bsS at h
  obtain ⟨⟨e', z'⟩, h1, h3⟩ := Option.bind_eq_some_iff.1 h
  obtain ⟨qs, _, h4⟩ := Option.bind_eq_some_iff.1 h3
  obtain ⟨_, _, _, _, _, _, _, i6⟩ := eltS_ok h1
  simp only at h4
  cases hb : (Nat.beq qs.length len && Nat.ble (len * z') 16777216) with
  | false => rw [hb] at h4; cases h4
  | true =>
    rw [hb] at h4
    obtain ⟨_, _, h6⟩ := Option.map_eq_some_iff.1 h4
    cases h6
    have := Nat.le_mul_of_pos_right len i6
    unfold maxLen
    omega
/-- A store of all cells of a value. -/
theorem wpStore {T : TypeId} (x y : Operand) (hd : o.dst = none) (ho : o.op = .store T x y) (b i : Nat) (us vs : List Value) (hx : a.eval x = .pointer (some ⟨b, i, none⟩)) (hy : (a.eval y).cells = vs.toArray) (hb : BoxL w b us) (hl : i + vs.length ≤ us.length) (hi : (P.info? T).map (·.size) = some vs.length) (h1 : ∀ v ∈ vs, v.oneCell' = true) (h : K a (w.setCells b i vs)) : o.wp P a w K Q := by
  have hst := run_storeCells_cells (P := P) b i vs 0 w (fun j hj => by
    rw [Nat.add_zero, hb.c (i + j) _ (List.getElem?_eq_getElem (by omega))]
    rfl) (fun j hj => hb.fz _) (fun u hu => h1 u hu)
  cases hq : P.info? T with
  | none => simp [hq] at hi
  | some t =>
    have hs : t.size = vs.length := by simpa [hq] using hi
    simp only [Nat.add_zero] at hst
    have hrun : (execOp a.eval o).run P w = .ok (.value undef) (w.setCells b i vs) ∨ (execOp a.eval o).run P w = .ok .skip (w.setCells b i vs) := by
      unfold execOp
      simp [ho, hx, Instr.storeAt, Instr.sureAddr, storeVar, sizeOf, typeInfo, hq, hy, hs, hst, Result.andThen]
    unfold Oper.wp
    rcases hrun with e | e
    · rw [e, Oper.upon_value, hd]
      exact h
    · rw [e, Oper.upon_skip, hd]
      exact h
/-- New memory that is a row. -/
theorem At.newR {w' : World} {e z n : Nat} {l : List Value} {b : Blk} (A : At C bs st a w) (h : Below w.heap.size w w') (hr : w'.ownsRow 0 e z (.slice b.ad n b.c) n l) (hn : ∀ X, b.a = some X → w.heap.size ≤ X) : At C (bs ++ [b]) ⟨st.s, st.b ++ [.row e z n l], st.m⟩ a w' :=
  A.newB h ⟨hr⟩ rfl hn
theorem exO_ok {M : List Bx} (A : At C bs st a w) (h : exO P C.n o st = some st') (hM : actOk M o st.s = true) (hK : ∀ bs' a' w', At C bs' st' a' w' → Stp bs bs' (lvs bs st.b) w w' → Sty M bs bs' st.b st'.b w w' → K a' w') : o.wp P a w K Q := by
  unfold exO at h
  split at h
  next T x y ho =>
    cases hd : o.dst with
    | some d => rw [hd] at h; cases h
    | none =>
      rw [hd] at h
      simp only [Option.isNone_none, cond_true] at h
      obtain ⟨p, h1, h2⟩ := Option.bind_eq_some_iff.1 h
      obtain ⟨q, h3, h4⟩ := Option.bind_eq_some_iff.1 h2
      obtain ⟨B, h5, rfl⟩ := Option.map_eq_some_iff.1 h4
      obtain ⟨p1, p2⟩ := evS_ok A.f h1
      obtain ⟨q1, q2⟩ := evS_ok A.f h3
      unfold storeS at h5
      split at h5
      next k o' =>
        split at h5
        next us hus =>
          obtain ⟨X, x1, x2, x3⟩ := cells_at A.b k us hus
          simp only [SV.den, x1, Option.getD_some] at p1
          have hlive : live bs st.b k = some X := by unfold live; rw [hus]; exact x1
          have hmem : X ∈ lvs bs st.b := mem_lvs.2 ⟨k, hlive⟩
          have hst : ∀ w' us', Far X w w' → Sty M bs bs st.b (st.b.set k (.cells us')) w w' := fun w' us' f => by
            refine ⟨fun k' u Y hm hY => f.bk Y fun e => ?_, Ce.set hus, fun j Y hY => .inl ⟨j, by rwa [live_set hus (y := .cells us') rfl] at hY⟩⟩
            subst e
            by_cases hkk : k' = k
            · subst hkk
              unfold actOk at hM
              rw [ho] at hM
              simp only [h1, hm] at hM
              cases hM
            · exact A.b.nd k' k Y hkk hY hlive
          have hset : ∀ w' us', Far X w w' → BoxL w' X (denL bs us') → okL bs.length us' = true → At C bs ⟨st.s, st.b.set k (.cells us'), st.m⟩ a w' := fun w' us' f hb hok =>
            A.go (A.b.set hus x1 rfl f ⟨⟨X, x1, hb⟩⟩ hok) (Stp.far hmem f) fun j Y hY => .inl ⟨j, by rwa [live_set hus (y := .cells us') rfl] at hY⟩
          split at h5
          next ht =>
            obtain ⟨td, _, _, u3⟩ := tyK_cell ht
            cases hc : (oneC q && Nat.blt o' us.length) with
            | false => rw [hc] at h5; cases h5
            | true =>
              rw [hc] at h5
              cases h5
              obtain ⟨c1, c2⟩ := Bool.and_eq_true_iff.1 hc
              have hi : o' < us.length := Nat.le_of_ble_eq_true c2
              have hi' : o' < (denL bs us).length := by rw [denL_len]; exact hi
              refine store1 hd ho p1 q1 (x2.c o' _ (List.getElem?_eq_getElem hi')) (x2.fz o') (oneC_ok c1 bs) u3 ?_
              have hf := far_cell w X o' (q.den bs)
              exact hK bs a _ (hset _ _ hf (by rw [denL_set]; exact x2.one hi' _) (okL_set x3 q2)) (Stp.far hmem hf) (hst _ _ hf)
          next z ht =>
            obtain ⟨td, _, _, u3⟩ := tyK_row ht
            obtain ⟨vs, h10, h11⟩ := Option.bind_eq_some_iff.1 h5
            cases hc : (Nat.beq vs.length z && (vs.all oneC && Nat.ble (o' + vs.length) us.length)) with
            | false => rw [hc] at h11; cases h11
            | true =>
              rw [hc] at h11
              cases h11
              obtain ⟨c1, c2⟩ := Bool.and_eq_true_iff.1 hc
              obtain ⟨c3, c4⟩ := Bool.and_eq_true_iff.1 c2
              have hi : o' + vs.length ≤ us.length := Nat.le_of_ble_eq_true c4
              have hl : vs.length = z := Nat.eq_of_beq_eq_true c1
              obtain ⟨d1, d2⟩ := cellsS_ok h10 bs q2
              have hf := far_cells X (denL bs vs) o' w
              have hw := wpStore (P := P) (Q := Q) (K := K) (w := w) (a := a) (T := T) x y hd ho X o' (denL bs us) (denL bs vs) p1 (by rw [q1]; exact d1) x2 (by rw [denL_len, denL_len]; exact hi) (by rw [denL_len, hl]; exact u3) (oneC_all c3 bs)
              refine hw (hK bs a _ (hset _ _ hf ?_ (okL_app (okL_app (okL_take x3) d2) (okL_drop x3))) (Stp.far hmem hf) (hst _ _ hf))
              rw [denL_app2, denL_app2, denL_take, denL_drop]
              have := x2.part (o := o') (denL bs vs) (by rw [denL_len, denL_len]; exact hi)
              rw [denL_len] at this
              exact this
          · cases h5
        · cases h5
      · cases h5
  next T ho =>
    obtain ⟨zs, h1, h2⟩ := Option.bind_eq_some_iff.1 h
    obtain ⟨t, z, i1, i2, i3⟩ := zOf_parts h1
    unfold Oper.wp
    rw [r_al i1 i2 i3 ho, Oper.upon_value]
    have hn := A.alloc (zs.toList.map litV) (okL_lit _ _) T
    rw [denL_lit, show zs.toList.toArray = zs by simp] at hn
    have hp := putD_ok hn (x := .ptr st.b.length 0) (by simp only [okB, List.length_append, List.length_singleton, ← A.b.l]; exact Nat.ble_eq_true_of_le (Nat.le_refl _)) h2
    have e : (SV.ptr st.b.length 0).den (bs ++ [⟨some w.heap.size, 0⟩]) = .pointer (some ⟨w.heap.size, 0, none⟩) := by
      simp only [SV.den]
      rw [← A.b.l, bkA_last]
      rfl
    rw [e] at hp
    exact hK _ _ _ hp.1 (Stp.newB _ (alloc_below _ _)) (by rw [hp.2.1]; exact Sty.newB A.b (alloc_below _ _) fun X hX => by cases hX; exact Nat.le_refl _)
  next T x ho =>
    obtain ⟨v, h1, h2⟩ := Option.bind_eq_some_iff.1 h
    obtain ⟨l, h3, h4⟩ := Option.bind_eq_some_iff.1 h2
    obtain ⟨e1, e2⟩ := evS_ok A.f h1
    obtain ⟨c1, c2⟩ := cellsS_ok h3 bs e2
    unfold Oper.wp
    rw [r_bx ho e1 c1, Oper.upon_value]
    have hn := A.alloc l c2 T
    have hp := putD_ok hn (x := .ptr st.b.length 0) (by simp only [okB, List.length_append, List.length_singleton, ← A.b.l]; exact Nat.ble_eq_true_of_le (Nat.le_refl _)) h4
    have e : (SV.ptr st.b.length 0).den (bs ++ [⟨some w.heap.size, 0⟩]) = .pointer (some ⟨w.heap.size, 0, none⟩) := by
      simp only [SV.den]
      rw [← A.b.l, bkA_last]
      rfl
    rw [e] at hp
    exact hK _ _ _ hp.1 (Stp.newB _ (alloc_below _ _)) (by rw [hp.2.1]; exact Sty.newB A.b (alloc_below _ _) fun X hX => by cases hX; exact Nat.le_refl _)
  next t len ps ho =>
    obtain ⟨⟨e, z, l⟩, h1, h2⟩ := Option.bind_eq_some_iff.1 h
    obtain ⟨r1, r2, r3⟩ := bs_run (w := w) A.f ho h1
    unfold Oper.wp
    rw [r1, Oper.upon_value]
    have hn := A.newR (b := ⟨some w.heap.size, len⟩) (e := e) (z := z) (n := len) (l := l) (alloc_below w (.cells l.toArray e)) ⟨r2, .inr ⟨w.heap.size, len, l.toArray, rfl, Nat.zero_le _, heap_alloc_new w _, Nat.le_refl _, bs_small h1 r3, by simpa using r2, by simp [← r2]⟩⟩ (fun X hX => by cases hX; exact Nat.le_refl _)
    have hp := putD_ok hn (x := .row st.b.length len) (by simp only [okB, List.length_append, List.length_singleton, ← A.b.l]; exact Nat.ble_eq_true_of_le (Nat.le_refl _)) h2
    have e : (SV.row st.b.length len).den (bs ++ [⟨some w.heap.size, len⟩]) = .slice (some ⟨w.heap.size, 0, none⟩) len len := by
      simp only [SV.den]
      rw [← A.b.l, bkA_last]
      rfl
    rw [e] at hp
    exact hK _ _ _ hp.1 (Stp.newB _ (alloc_below _ _)) (by rw [hp.2.1]; exact Sty.newB A.b (alloc_below _ _) fun X hX => by cases hX; exact Nat.le_refl _)
  · exact pure_ok rfl A h hK
end
end Ev
end Go.Proofs.Ytkjpbjgepnbibaa
