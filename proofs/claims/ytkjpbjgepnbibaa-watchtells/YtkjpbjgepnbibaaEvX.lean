/- The second engine: lists of any size; arrays, what is compared, maps. -/
import Derived.Test.YtkjpbjgepnbibaaEvW
import Derived.Maps.OwnOps
import Derived.Maps.OwnSet
import Derived.Maps.Views
namespace Go.Proofs.Ytkjpbjgepnbibaa
open Go.RowKit Go.Maps
set_option maxRecDepth 100000
namespace Ev
section
variable {P : Program} {C : Cx} {Q : Exit → Act → World → Prop}
theorem ap_runW {o : Oper} {a : Act} {w : World} {t e z n m cc : Nat} {s x : Operand} {fv : Value} {ao : Option Addr} {l l' : List Value} (he : eltS P t = some (e, z)) (ho : o.op = .call { callee := .builtin .append, args := #[s, x], argTypes := #[t, t] }) (h1 : a.eval s = fv) (h2 : a.eval x = .slice ao m cc) (own : w.ownsRow 0 e z fv n l) (hno : ao = none → m = 0 ∧ cc = 0) (hl : l'.length = m * z)
    (hc : ∀ ad, ao = some ad → ∀ j u, l'[j]? = some u → w.cell? (ad.add j) = some u) (h1c : ∀ u ∈ l', u.oneCell' = true) (hb : n + m ≤ maxLen) (hbb : ∀ i, P.info? e = some i → (n + m) * i.bytes ≤ 140737488355328) :
    ∃ (blk : Blk) (w' : World), (execOp a.eval o).run P w = .ok (.value (.slice blk.ad (n + m) blk.c)) w' ∧ w'.ownsRow 0 e z (.slice blk.ad (n + m) blk.c) (n + m) (l ++ l') ∧ w.grownBy w' fv.ownBlock ∧ (blk.a = fv.ownBlock ∨ blk.a = some w.heap.size ∨ blk.a = none) := by
  obtain ⟨i, v, i1, i2, i3, i4, i5, i6⟩ := eltS_ok he
  cases ao with
  | none =>
    obtain ⟨rfl, rfl⟩ := hno rfl
    have hl0 : l' = [] := List.eq_nil_of_length_eq_zero (by simpa using hl)
    subst hl0
    obtain ⟨blk, e1, e2⟩ := own_blk own
    have hrun := run_append_owned_none (P := P) (w := w) 0 t o.type e i z i1 i2 fv n l own
    refine ⟨blk, w, ?_, by rw [List.append_nil, Nat.add_zero, ← e1]; exact own, ⟨rfl, rfl, rfl, Nat.le_refl _, fun _ _ _ => rfl⟩, .inl e2⟩
    rw [Nat.add_zero, ← e1]
    simp [execOp, ho, resolve, invoke, builtin, h1, h2, hrun, Result.andThen]
  | some ad =>
    obtain ⟨v', w', hr, hw, hg, _, hat⟩ := run_append_own_at (P := P) w 0 t o.type e i v z i.bytes i1 i2 i3 i4 rfl i5 i6 fv n l own ad m cc l' hl (hc ad rfl) h1c hb (hbb i i2) (Nat.zero_le _)
    obtain ⟨blk, e1, e2⟩ := own_blk hw
    refine ⟨blk, w', ?_, by rw [← e1]; exact hw, hg, ?_⟩
    · rw [← e1]
      simp [execOp, ho, resolve, invoke, builtin, h1, h2, hr, Result.andThen]
    · rcases hat with h | h
      · exact .inl (e2.trans h)
      · exact .inr (.inl (e2.trans h))
theorem appW {c : Cfg} {n m n' : Nat} (bb : Nat) {l l2 l' : List Value} (hnl : n + m = n' ∧ l ++ l2 = l') (hm : P.follows .mixedOrders = true) (h : apV P C.n c = some (n, n, m, m, true, l, l2)) (hw : (apO P C.n c).map (fun q => (P.info? q.2.2.1).map (·.bytes)) = some (some bb)) (hb : n' ≤ maxLen) (hbb : n' * bb ≤ 140737488355328) (H : Runs P C Q (go P C.n 9999 (aftA P C.n c n' l'))) : Runs P C Q c := by
  have H := go_ok hm _ H
  obtain ⟨rfl, rfl⟩ := hnl
  unfold apV at h
  obtain ⟨⟨u, v, e, z⟩, h1, h2⟩ := Option.bind_eq_some_iff.1 h
  obtain ⟨⟨f1, f2, f3, f4⟩, h3, h4⟩ := Option.bind_eq_some_iff.1 h2
  obtain ⟨⟨s1, s2, s3⟩, h5, h6⟩ := Option.map_eq_some_iff.1 h4
  simp only [Prod.mk.injEq] at h6
  obtain ⟨rfl, rfl, rfl, rfl, hone, rfl, rfl⟩ := h6
  obtain ⟨o, hd', s, x, t, n1, n2, n3, n4, n5, n6, n7⟩ := apO_ok h1
  rw [h1, Option.map_some, Option.some.injEq] at hw
  unfold aftA at H
  rw [h1] at H
  simp only [Option.bind_some, h3, Option.map_some] at H
  unfold aft at H
  rw [n1] at H
  refine core n1 fun bs a w A K Q' hK => ?_
  obtain ⟨p1, p2, p3⟩ := fst_ok A h3 rfl
  have hsv : ∃ k', v = .row k' s2 ∧ c.st.b[k']? = some (.row e z s2 s3) := by
    simp only at h5
    unfold sndV at h5
    split at h5
    next k' n' =>
      split at h5
      next e' z' n2 l2 hk =>
        cases hbb : (Nat.beq e e' && Nat.beq z z') with
        | false => rw [hbb] at h5; cases h5
        | true =>
          rw [hbb] at h5
          cases h5
          obtain ⟨b1, b2⟩ := Bool.and_eq_true_iff.1 hbb
          rw [Nat.eq_of_beq_eq_true b1, Nat.eq_of_beq_eq_true b2]
          exact ⟨k', rfl, hk⟩
      · cases h5
    · cases h5
  obtain ⟨k', rfl, hk'⟩ := hsv
  have own2 : w.ownsRow 0 e z (.slice (bkA bs k').ad s2 (bkA bs k').c) s2 s3 := (A.b.b k' _ hk').o
  obtain ⟨q1, q2⟩ := own_cells own2
  have ev := (evS_ok A.f n6).1
  simp only [SV.den] at ev
  obtain ⟨blk, w', r1, r2, r3, r4⟩ := ap_runW (w := w) n3 n2 (evS_ok A.f n5).1 ev p1 q1 own2.1 q2 (fun u hu => List.all_eq_true.1 hone u hu) hb (fun i hi => by simp only [hi, Option.map_some, Option.some.injEq] at hw; rw [hw]; exact hbb)
  obtain ⟨A', t1, t2⟩ := A.app (M := mN hd') f4 _ blk p2 p3 r3 r2 r4
  unfold Oper.wp
  rw [r1, Oper.upon_value]
  have hput := A'.sput (d := o.dst) (dst_lt n7) (x := .row c.st.b.length (f2 + s2)) (by simp only [okB, List.length_append, List.length_singleton, A.b.l]; exact Nat.ble_eq_true_of_le (Nat.le_refl _))
  simp only [SV.den] at hput
  rw [← A.b.l, bkA_last] at hput
  rw [A.b.l] at hput
  exact hK _ _ w' _ hput t1 t2 H
theorem mkW {c : Cfg} (n bb : Nat) {y : Int} {zs : List Value} (l : List Value) (hm : P.follows .mixedOrders = true) (h : mkC P C.n c = some (y, y, zs)) (hy : y = (n : Int)) (hw : (mkT P c).map (fun q => (P.info? q.1).map (·.bytes)) = some (some bb)) (hn : n ≤ 70368744177664) (hbb : bb * n ≤ 140737488355328) (hl : (List.replicate n zs).flatten = l) (H : Runs P C Q (go P C.n 9999 (aftM P c n l))) : Runs P C Q c := by
  have H := go_ok hm _ H
  unfold mkC at h
  obtain ⟨⟨o, hd'⟩, h1, h2⟩ := Option.bind_eq_some_iff.1 h
  simp only at h2
  cases hd : dstOk C.n o with
  | false => rw [hd] at h2; cases h2
  | true =>
    rw [hd] at h2
    simp only [cond_true] at h2
    split at h2
    next t x x2 ho =>
      obtain ⟨⟨e, z⟩, h3, h4⟩ := Option.bind_eq_some_iff.1 h2
      simp only at h4
      cases hs : smallT P e with
      | false => rw [hs] at h4; cases h4
      | true =>
        rw [hs] at h4
        simp only [cond_true] at h4
        obtain ⟨u, h5, h6⟩ := Option.bind_eq_some_iff.1 h4
        obtain ⟨v, h7, h8⟩ := Option.bind_eq_some_iff.1 h6
        obtain ⟨i1', h9, h10⟩ := Option.bind_eq_some_iff.1 h8
        obtain ⟨i2', h11, h12⟩ := Option.bind_eq_some_iff.1 h10
        obtain ⟨zs', h13, h14⟩ := Option.map_eq_some_iff.1 h12
        simp only [Prod.mk.injEq] at h14
        obtain ⟨rfl, rfl, rfl⟩ := h14
        subst hy
        unfold mkT at hw
        rw [h1] at hw
        simp only [Option.bind_some, ho, h3, Option.map_some, Option.some.injEq] at hw
        unfold aftM mkT at H
        rw [h1] at H
        simp only [Option.bind_some, ho, h3] at H
        unfold aft at H
        rw [h1] at H
        obtain ⟨i, zv, i1, i2, i3, i4, i5, i6⟩ := eltS_ok h3
        obtain ⟨_, _, j1, j2, j3⟩ := zOf_parts h13
        rw [i2] at j1
        cases j1
        rw [i3] at j2
        cases j2
        have hzl : zs'.toList.length = z := by rw [← i5, j3]; simp
        refine core h1 fun bs a w A K Q' hK => ?_
        have e1 := intS_eval A.f h5 h9
        have e2 := intS_eval A.f h7 h11
        have hbytes : (i.bytes : Int) * (n : Int) ≤ 281474976710656 := by
          have : i.bytes * n ≤ 140737488355328 := by rw [i2, Option.map_some, Option.some.injEq] at hw; rw [hw]; exact hbb
          have h2 : ((i.bytes * n : Nat) : Int) ≤ 281474976710656 := by omega
          rwa [Int.natCast_mul] at h2
        have hr := run_make (P := P) w t e i zv i1 i2 i3 .i64 .i64 (n : Int) (n : Int) (by omega) (by omega) hbytes (by omega)
        have hmade : (madeCells zv.cells (n * z)).toList = l := by
          rw [← hl, j3, ← hzl]
          have := made_flat zs'.toList (by rw [hzl]; exact i6) n
          rwa [Array.toArray_toList] at this
        have hmade' : madeCells zv.cells (n * z) = l.toArray := by rw [← hmade]
        simp only [Int.toNat_natCast, i4] at hr
        rw [hmade'] at hr
        have hrun : (execOp a.eval o).run P w = .ok (.value (.slice (some ⟨w.heap.size, 0, none⟩) n n)) (w.alloc (.cells l.toArray e)) := by
          unfold execOp
          simp [ho, e1, e2, hr]
        unfold Oper.wp
        rw [hrun, Oper.upon_value]
        have hll : l.length = n * z := by rw [← hmade]; simp [size_madeCells]
        have hnew : ∀ X, (Bx.row e z n l).bl ⟨some w.heap.size, n⟩ = some X → w.heap.size ≤ X := fun X hX => by cases hX; exact Nat.le_refl _
        have hA := A.newR (b := ⟨some w.heap.size, n⟩) (e := e) (z := z) (n := n) (l := l) (alloc_below w (.cells l.toArray e)) ⟨hll, .inr ⟨w.heap.size, n, l.toArray, rfl, Nat.zero_le _, heap_alloc_new w _, Nat.le_refl _, by unfold maxLen; omega, by simpa using hll, by simp [← hll]⟩⟩ hnew
        have hput := hA.sput (d := o.dst) (dst_lt hd) (x := .row c.st.b.length n) (by simp only [okB, List.length_append, List.length_singleton, A.b.l]; exact Nat.ble_eq_true_of_le (Nat.le_refl _))
        simp only [SV.den] at hput
        rw [← A.b.l, bkA_last] at hput
        rw [A.b.l] at hput
        exact hK _ _ _ _ hput (Stp.newB _ (alloc_below _ _)) ((Sty.newB A.b (alloc_below _ _) hnew).toW (alloc_below _ _).size) H
    · cases h2
/-- An operation that yields a value, by what it is. -/
theorem toldP {α : Type} {c : Cfg} (i : Nat) (f : Oper → Option α) (v : α) (y : SV) (hm : P.follows .mixedOrders = true) (h : ((tkD C.n c i).bind f) = some v) (hv : ∀ o, f o = some v → ∀ bs a w, Fr C.n bs c.st.s a → (∀ x ∈ fcts c, x.L w) → (execOp a.eval o).run P w = .ok (.value (y.den bs)) w ∧ okB bs.length y = true) (H : Runs P C Q (go P C.n 9999 (aftT c i y))) : Runs P C Q c := by
  obtain ⟨o, h1, h2⟩ := Option.bind_eq_some_iff.1 h
  exact told i y hm h1 (hv o h2) H
/-- A struct or an array of nothing. -/
def bldO (P : Program) (o : Oper) : Option (Array Value) := match o.op with
  | .build T ps => match ps.toList with
    | [] => P.built T []
    | _ => none
  | _ => none
theorem bld0 {c : Cfg} (i : Nat) (vs : List Value) (hm : P.follows .mixedOrders = true) (h : ((tkD C.n c i).bind (bldO P)) = some vs.toArray) (H : Runs P C Q (go P C.n 9999 (aftT c i (.val (.agg vs.toArray))))) : Runs P C Q c := by
  refine toldP i (bldO P) _ _ hm h (fun o ho bs a w _ _ => ⟨?_, by simp only [okB]⟩) H
  unfold bldO at ho
  split at ho
  next T ps hop =>
    split at ho
    next hps =>
      have e : ps = #[] := by
        obtain ⟨l⟩ := ps
        simp at hps
        rw [hps]
      subst e
      have hr := run_build (P := P) w T #[] vs.toArray ho
      simp only [SV.den]
      unfold execOp
      simp [hop, hr]
    · cases ho
  · cases ho
/-- What is compared, by the values. -/
def eqO (s : List (Nat × SV)) (o : Oper) : Option (Bool × TypeId × Value × Value) := match o.op with
  | .binOp op T x y _ => match op with
    | .eql => (evS s x).bind fun u => (evS s y).bind fun v => (plain u).bind fun p => (plain v).map fun q => (false, T, p, q)
    | .neq => (evS s x).bind fun u => (evS s y).bind fun v => (plain u).bind fun p => (plain v).map fun q => (true, T, p, q)
    | _ => none
  | _ => none
theorem eqv {c : Cfg} (i : Nat) (b : Bool) {ne : Bool} {T : TypeId} {p q : Value} (hm : P.follows .mixedOrders = true) (h : (((tkD C.n c i).bind (eqO c.st.s)), P.eqGuardType P.depth T) = (some (ne, T, p, q), false)) (hp : (∃ us, p = .agg us) ∧ ∃ us, q = .agg us) (he : ∀ w, (Op.equal T p q).run P w = .ok b w) (H : Runs P C Q (go P C.n 9999 (aftT c i (.val (.bool (ne ^^ b)))))) : Runs P C Q c := by
  simp only [Prod.mk.injEq] at h
  obtain ⟨h, hgd⟩ := h
  refine toldP i (eqO c.st.s) _ _ hm h (fun o ho bs a w A _ => ⟨?_, by simp only [okB]⟩) H
  obtain ⟨⟨us, rfl⟩, vs, rfl⟩ := hp
  unfold eqO at ho
  split at ho
  next op T' x y t hop =>
    split at ho
    · obtain ⟨u, h1, h2⟩ := Option.bind_eq_some_iff.1 ho
      obtain ⟨v, h3, h4⟩ := Option.bind_eq_some_iff.1 h2
      obtain ⟨p', h5, h6⟩ := Option.bind_eq_some_iff.1 h4
      obtain ⟨q', h7, h8⟩ := Option.map_eq_some_iff.1 h6
      cases h8
      have e1 := (evS_ok A h1).1
      have e2 := (evS_ok A h3).1
      rw [plain_ok h5] at e1
      rw [plain_ok h7] at e2
      simp only [SV.den]
      unfold execOp
      simp only [hop, e1, e2, eqGuard, binOp]
      simp [he w, hgd]
    · obtain ⟨u, h1, h2⟩ := Option.bind_eq_some_iff.1 ho
      obtain ⟨v, h3, h4⟩ := Option.bind_eq_some_iff.1 h2
      obtain ⟨p', h5, h6⟩ := Option.bind_eq_some_iff.1 h4
      obtain ⟨q', h7, h8⟩ := Option.map_eq_some_iff.1 h6
      cases h8
      have e1 := (evS_ok A h1).1
      have e2 := (evS_ok A h3).1
      rw [plain_ok h5] at e1
      rw [plain_ok h7] at e2
      simp only [SV.den]
      unfold execOp
      simp only [hop, e1, e2, eqGuard, binOp]
      simp [he w, hgd]
    · cases ho
  · cases ho
/-- A map that the function has made, with all that is known besides. -/
def mfMp (P : Program) (k : TypeId) (R : Value → Option (DataW Unit × List MemPlace)) (ms : List Mf) (b n : Nat) (D : DataW Unit) : Mf := ⟨fun w => w.ownsMap P k R b n D ∧ ∀ m ∈ ms, m.L w ∧ m.O b, fun X => b ≠ X ∧ ∀ m ∈ ms, m.O X, fun bs w w' hz hk h ho => by
  refine ⟨⟨?_, fun m hm => ⟨(m.g bs w w' hz hk (h.2 m hm).1 fun b hb => (ho b hb).2 m hm).1, (h.2 m hm).2⟩⟩, fun X hX => ⟨?_, fun m hm => (m.g bs w w' hz hk (h.2 m hm).1 fun b hb => (ho b hb).2 m hm).2 X hX⟩⟩
  · obtain ⟨es, cl, e, r⟩ := h.1
    exact ⟨es, cl, by rw [hk b h.1.lt fun hm => (ho b hm).1 rfl]; exact e, r⟩
  · have := h.1.lt
    omega⟩
def mkmO (n : Nat) (c : Cfg) : Option (Option Operand) := (nxt c).bind fun p => bif dstOk n p.1 then match p.1.op with
  | .makeMap _ x => some x
  | _ => none
  else none
def aftK (c : Cfg) (x : SV) (ms : List Mf) : Cfg := aft c x c.st.b ms
theorem mkMap {c : Cfg} (k : TypeId) (R : Value → Option (DataW Unit × List MemPlace)) (hm : P.follows .mixedOrders = true) (h : mkmO C.n c = some none) (H : ∀ b : Nat, C.w0.heap.size ≤ b → Runs P C Q (go P C.n 9999 (aft c (.val (.map (some b))) c.st.b (mfMp P k R c.st.m b 0 (.map []) :: c.st.m)))) : Runs P C Q c := by
  unfold mkmO at h
  obtain ⟨⟨o, hd'⟩, h1, h2⟩ := Option.bind_eq_some_iff.1 h
  simp only at h2
  cases hd : dstOk C.n o with
  | false => rw [hd] at h2; cases h2
  | true =>
    rw [hd] at h2
    simp only [cond_true] at h2
    split at h2
    next t x ho =>
      cases h2
      refine core h1 fun bs a w A K Q' hK => ?_
      have hr := run_makeMap (P := P) t w
      have hrun : (execOp a.eval o).run P w = .ok (.value (.map (some w.heap.size))) (w.alloc (.map #[] 0)) := by
        unfold execOp
        simp [ho, hr]
      unfold Oper.wp
      rw [hrun, Oper.upon_value]
      have hb := alloc_below w (.map #[] 0)
      have hz0 : C.w0.heap.size ≤ w.heap.size := A.t.bl.size
      have A1 : At C bs ⟨c.st.s, c.st.b, mfMp P k R c.st.m w.heap.size 0 (.map []) :: c.st.m⟩ a (w.alloc (.map #[] 0)) := by
        have A0 := A.keep hb
        refine ⟨A0.f, A0.b, fun m hmm => ?_, A0.t, A0.n, A0.y, A0.p⟩
        rcases List.mem_cons.1 hmm with rfl | hmm
        · refine ⟨⟨World.ownsMap_made w P k R, fun m hm' => ⟨(A0.m m hm').l, ?_⟩⟩, fun j X hX => ⟨?_, fun m hm' => (A.m m hm').o j X hX⟩, fun X hX => ⟨?_, fun m hm' => (A.m m hm').z X hX⟩⟩
          · exact (m.g [] w w (Nat.le_refl _) (fun _ _ _ => rfl) (A.m m hm').l (fun b hb => by cases hb)).2 _ (Nat.le_refl _)
          · have := A.b.lt hX
            omega
          · have := (A.y X hX).1
            omega
        · exact A0.m m hmm
      have hput := A1.sput (d := o.dst) (dst_lt hd) (x := .val (.map (some w.heap.size))) (by simp only [okB])
      simp only [SV.den] at hput
      have H := go_ok hm _ (H w.heap.size hz0)
      unfold aft at H
      rw [h1] at H
      exact hK _ _ _ _ hput (Stp.below hb) ((Sty.keep A.b hb).toW hb.size) H
    · cases h2
def lookO (s : List (Nat × SV)) (o : Oper) : Option (TypeId × Value × Value) := match o.op with
  | .lookup T x y ok => bif ok then none else (evS s x).bind fun u => (evS s y).bind fun v => (plain u).bind fun p => (plain v).map fun q => (T, p, q)
  | _ => none
theorem lookM {c : Cfg} (i : Nat) (v : Value) {T : TypeId} {p q : Value} (hm : P.follows .mixedOrders = true) (h : ((tkD C.n c i).bind (lookO c.st.s)) = some (T, p, q)) (he : ∀ w, (∀ x ∈ fcts c, x.L w) → (Instr.lookup T p q false).run P w = .ok v w) (H : Runs P C Q (go P C.n 9999 (aftT c i (.val v)))) : Runs P C Q c := by
  refine toldP i (lookO c.st.s) _ _ hm h (fun o ho bs a w A hF => ⟨?_, by simp only [okB]⟩) H
  unfold lookO at ho
  split at ho
  next T' x y ok hop =>
    cases ok with
    | true => cases ho
    | false =>
      simp only [cond_false] at ho
      obtain ⟨u, h1, h2⟩ := Option.bind_eq_some_iff.1 ho
      obtain ⟨v', h3, h4⟩ := Option.bind_eq_some_iff.1 h2
      obtain ⟨p', h5, h6⟩ := Option.bind_eq_some_iff.1 h4
      obtain ⟨q', h7, h8⟩ := Option.map_eq_some_iff.1 h6
      cases h8
      have e1 := (evS_ok A h1).1
      have e2 := (evS_ok A h3).1
      rw [plain_ok h5] at e1
      rw [plain_ok h7] at e2
      simp only [SV.den]
      unfold execOp
      simp [hop, e1, e2, he w hF]
  · cases ho
def lenO (s : List (Nat × SV)) (o : Oper) : Option (TypeId × Value) := match o.op with
  | .call q => bif isLen q.callee then match q.args.toList, q.argTypes.toList with
    | [x], [T] => (evS s x).bind fun u => (plain u).map fun p => (T, p)
    | _, _ => none
    else none
  | _ => none
theorem lenM {c : Cfg} (i : Nat) (v : Value) {T : TypeId} {p : Value} (hm : P.follows .mixedOrders = true) (h : ((tkD C.n c i).bind (lenO c.st.s)) = some (T, p)) (he : ∀ w ty, (∀ x ∈ fcts c, x.L w) → (Builtin.len_ #[T] ty #[p]).run P w = .ok v w) (H : Runs P C Q (go P C.n 9999 (aftT c i (.val v)))) : Runs P C Q c := by
  refine toldP i (lenO c.st.s) _ _ hm h (fun o ho bs a w A hF => ⟨?_, by simp only [okB]⟩) H
  unfold lenO at ho
  split at ho
  next q hop =>
    cases hl : isLen q.callee with
    | false => rw [hl] at ho; cases ho
    | true =>
      rw [hl] at ho
      simp only [cond_true] at ho
      have hq : q.callee = .builtin .len := by
        unfold isLen at hl
        split at hl
        · assumption
        · cases hl
      split at ho
      next x T' hx hT =>
        obtain ⟨u, h1, h2⟩ := Option.bind_eq_some_iff.1 ho
        obtain ⟨p', h3, h4⟩ := Option.map_eq_some_iff.1 h2
        cases h4
        have e1 := (evS_ok A h1).1
        rw [plain_ok h3] at e1
        have ex : q.args = #[x] := by rw [← hx]
        have et : q.argTypes = #[T] := by rw [← hT]
        simp only [SV.den]
        unfold execOp
        simp [hop, hq, ex, et, e1, resolve, invoke, builtin, he w _ hF]
      · cases ho
  · cases ho
def upmO (c : Cfg) : Option (TypeId × Value × Value × Value) := (nxt c).bind fun p => match p.1.op, p.1.dst with
  | .mapUpdate T x y z, none => (evS c.st.s x).bind fun u => (evS c.st.s y).bind fun v => (evS c.st.s z).bind fun t => (plain u).bind fun a => (plain v).bind fun b => (plain t).map fun d => (T, a, b, d)
  | _, _ => none
theorem upM {c : Cfg} (j : Nat) {k e : TypeId} {R : Value → Option (DataW Unit × List MemPlace)} {ms : List Mf} {b n : Nat} {D : DataW Unit} {T : TypeId} {key val : Value} (kl : Lit) (d : DataW Unit) (hm : P.follows .mixedOrders = true) (h : upmO c = some (T, .map (some b), key, val)) (hk1 : c.hd.k = 1) (hf : c.st.m[j]? = some (mfMp P k R ms b n D)) (hb : C.w0.heap.size ≤ b)
    (K : Keyed P k) (ht : P.underlying T = some (.map k e)) (hn : n < maxLen) (hkey : keyOf P k key = some kl) (hval : R val = some (d, [])) (H : Runs P C Q (go P C.n 9999 (match nxt c with | some p => ⟨p.2, c.r, ⟨c.st.s, c.st.b, [mfMp P k R ms b (n + 1) (D.put kl d)]⟩⟩ | none => c))) : Runs P C Q c := by
  unfold upmO at h
  obtain ⟨⟨o, hd'⟩, h1, h2⟩ := Option.bind_eq_some_iff.1 h
  simp only at h2
  rw [h1] at H
  have H := go_ok hm _ H
  split at h2
  next T' x y z hop hds =>
    obtain ⟨u1, h3, h4⟩ := Option.bind_eq_some_iff.1 h2
    obtain ⟨u2, h5, h6⟩ := Option.bind_eq_some_iff.1 h4
    obtain ⟨u3, h7, h8⟩ := Option.bind_eq_some_iff.1 h6
    obtain ⟨v1, g1, g2⟩ := Option.bind_eq_some_iff.1 h8
    obtain ⟨v2, g3, g4⟩ := Option.bind_eq_some_iff.1 g2
    obtain ⟨v3, g5, g6⟩ := Option.map_eq_some_iff.1 g4
    cases g6
    refine ⟨?_⟩
    intro bs a w A
    rw [hk1]
    unfold nxt at h1
    rw [hk1] at h1
    simp only at h1
    split at h1
    next o' l hl =>
      split at h1
      next hw =>
        cases h1
        show wpList P c.hd.ops (ex P Q c.r) c.hd.l a w
        rw [hl]
        refine wpList_step fun K' hK => ?_
        rw [if_pos ((wnt_ok A).1 hw)]
        have e1 := (evS_ok A.f h3).1
        have e2 := (evS_ok A.f h5).1
        have e3 := (evS_ok A.f h7).1
        rw [plain_ok g1] at e1
        rw [plain_ok g3] at e2
        rw [plain_ok g5] at e3
        have hL := A.m _ (List.mem_of_getElem? hf)
        obtain ⟨w', hr, hown, hgr⟩ := hL.l.1.update K ht hn hkey hval
        have hrun : (execOp a.eval o).run P w = .ok (.value undef) w' ∨ (execOp a.eval o).run P w = .ok .skip w' := by
          unfold execOp
          simp [hop, e1, e2, e3, hr, Result.andThen]
        unfold Oper.wp
        have hlt := hL.l.1.lt
        have hzz : w.heap.size ≤ w'.heap.size := hgr.size
        have hbk : ∀ X, X ≠ b → X < w.heap.size → w'.heap[X]? = w.heap[X]? := fun X hX hl => hgr.block X hl fun e => hX (by cases e; rfl)
        have hA : At C bs ⟨c.st.s, c.st.b, [mfMp P k R ms b (n + 1) (D.put kl d)]⟩ a w' := by
          refine ⟨A.f, A.b.keep hzz fun j X hX => hbk X (fun e => (hL.o j X hX).1 e.symm) (A.b.lt hX), fun m hmm => ?_, ⟨?_, fun k' hk' hS => ?_⟩, A.n, A.y, A.p⟩
          · rw [List.mem_singleton.1 hmm]
            have hms : ∀ m ∈ ms, m.L w' ∧ m.O b := fun m hm' => ⟨(m.g [b] w w' hzz (fun k' hk' hn' => hbk k' (fun e => hn' (by rw [e]; exact List.mem_singleton_self b)) hk') (hL.l.2 m hm').1 fun b' hb' => by rw [List.mem_singleton.1 hb']; exact (hL.l.2 m hm').2).1, (hL.l.2 m hm').2⟩
            exact ⟨⟨hown, hms⟩, hL.o, hL.z⟩
          · exact A.t.bl.grown hgr (Nat.zero_le _) fun k' e => by cases e; exact Nat.zero_le _
          · rw [hbk k' (fun e => by omega) (Nat.lt_of_lt_of_le hk' A.t.bl.size)]
            exact A.t.k k' hk' hS
        rcases hrun with e | e
        · rw [e, Oper.upon_value, hds]
          exact hK _ _ (H.o bs _ w' hA)
        · rw [e, Oper.upon_skip, hds]
          exact hK _ _ (H.o bs _ w' hA)
      · cases h1
    · cases h1
  · cases h2
/-- A slot that holds no list: a row of nothing. -/
theorem nilS {c : Cfg} (i : Nat) (e z : Nat) (hm : P.follows .mixedOrders = true) (h : (Nat.ble c.hd.k 1, c.st.s.lookup i) = (true, some (.val (.slice none 0 0)))) (H : Runs P C Q (go P C.n 9999 ⟨c.hd, c.r, ⟨(i, .row c.st.b.length 0) :: c.st.s, c.st.b ++ [.row e z 0 []], c.st.m⟩⟩)) : Runs P C Q c := by
  simp only [Prod.mk.injEq] at h
  obtain ⟨h, hs⟩ := h
  refine ⟨?_⟩
  intro bs a w A
  have A' := (A.app (M := []) none none (e := e) (z := z) (n := 0) (l := []) ⟨none, 0⟩ (fun X h => by cases h) (fun k h => by cases h) ⟨rfl, rfl, rfl, Nat.le_refl _, fun _ _ _ => rfl⟩ (owns_nil w e z) (.inl rfl)).1
  have A2 := A'.same (d := i) (x := .row c.st.b.length 0) hs (by simp only [SV.den]; rw [← A.b.l, bkA_last]; rfl) (by simp only [okB, List.length_append, List.length_singleton, A.b.l]; exact Nat.ble_eq_true_of_le (Nat.le_refl _))
  have h' := (go_ok hm _ H).o _ a w A2
  have h2 := Nat.le_of_ble_eq_true h
  split
  next hk => simp only [hk] at h'; exact h'
  next hk => simp only [hk] at h'; exact h'
  next hk => omega
  next hk => omega
end
end Ev
end Go.Proofs.Ytkjpbjgepnbibaa
