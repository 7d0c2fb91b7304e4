/- The engine: what is told it. -/
import Derived.Test.YtbpmcabeghbalaaEnC
namespace Go.Proofs.Ytbpmcabeghbalaa
namespace En
open Go.RowKit
set_option maxRecDepth 100000

def argS : Nat → List SV → List (Nat × SV)
  | _, [] => []
  | k, v :: r => (k, v) :: argS (k + 1) r
theorem argS_at : ∀ (vs : List SV) (k i : Nat) (v : SV), (argS k vs).lookup i = some v → k ≤ i ∧ vs[i - k]? = some v
  | [], _, _, _, h => by cases h
  | u :: r, k, i, v, h => by
    rw [argS, List.lookup_cons] at h
    cases e : (i == k) with
    | true =>
      rw [e] at h
      have : i = k := by simpa using e
      subst this
      cases h
      simp
    | false =>
      rw [e] at h
      have hne : i ≠ k := by simpa using e
      obtain ⟨h1, h2⟩ := argS_at r (k + 1) i v h
      refine ⟨by omega, ?_⟩
      rw [show i - k = (i - (k + 1)) + 1 by omega, List.getElem?_cons_succ]
      exact h2
/-- Plain slots alone, or places in the boxes that there are. -/
def okB (m : Nat) (x : SV) : Bool := Nat.beq x.q 0 && (!isB x || Nat.blt x.k m)
theorem okB_ok {m : Nat} {x : SV} (h : okB m x = true) : x.ok m := by
  unfold okB at h
  obtain ⟨h1, h2⟩ := Bool.and_eq_true_iff.1 h
  have hq := Nat.eq_of_beq_eq_true h1
  refine ⟨fun e => ?_, ⟨fun e => (by rw [hq] at e; cases e), fun e => (by rw [hq] at e; cases e)⟩, fun e => (by rw [hq] at e; cases e)⟩
  rw [e] at h2
  exact Nat.le_of_ble_eq_true h2
def bodyOf (fn : Func) : Code := fn.body.getD .skip
theorem bodyOf_ok {fn : Func} (h : fn.body.isSome = true) : fn.body = some (bodyOf fn) := by
  unfold bodyOf
  cases hb : fn.body with
  | none => rw [hb] at h; cases h
  | some c => rfl
section
variable {P : Program} {C : Cx} {Q : Exit → Act → World → Prop} {R : Ending → World → Prop}
/-- A function begins. -/
theorem start {f : FuncId} {fn : Func} {w : World} (n : Nat) (bs0 : List Nat) (ss : List SV) (B : List (List Value)) (ms : List Mf) (hm : P.follows .mixedOrders = true) (hf : P.funcs[f]? = some fn) (hb : fn.body.isSome = true) (hn : fn.ntmps = n) (hl : (Nat.ble ss.length n && ss.all (okB B.length)) = true) (hB : Bk bs0 B w) (hms : ∀ x ∈ ms, x.L w ∧ ∀ b ∈ bs0, x.O b)
    (h : Runs P ⟨n, bs0, w⟩ (bodyPost P fn R) (go P n 9999 ⟨h0, [co (bodyOf fn)], ⟨argS 0 ss, B, ms⟩⟩)) : Calls P f (ss.map (·.den bs0)).toArray w R := by
  obtain ⟨hl1, hl2⟩ := Bool.and_eq_true_iff.1 hl
  have hl1' : ss.length ≤ n := Nat.le_of_ble_eq_true hl1
  have hr := go_ok (C := ⟨n, bs0, w⟩) hm 9999 h
  have hAt : At ⟨n, bs0, w⟩ bs0 ⟨argS 0 ss, B, ms⟩ { tmps := (ss.map (·.den bs0)).toArray ++ Array.replicate (fn.ntmps - (ss.map (·.den bs0)).toArray.size) undef, defers := [] } w := by
    refine ⟨⟨fun i x hx => ?_, rfl, by simp [hn]; omega⟩, hB, hms, Tch.refl _ _⟩
    obtain ⟨_, h2⟩ := argS_at ss 0 i x hx
    rw [Nat.sub_zero] at h2
    obtain ⟨hi, he⟩ := List.getElem?_eq_some_iff.1 h2
    refine ⟨?_, okB_ok (List.all_eq_true.1 hl2 x (List.mem_of_getElem? h2))⟩
    have : ((ss.map (·.den bs0)).toArray ++ Array.replicate (fn.ntmps - (ss.map (·.den bs0)).toArray.size) undef)[i]? = some (x.den bs0) := by
      rw [Array.getElem?_append_left (by simpa using hi)]
      simp [hi, he]
    rw [Array.getD_eq_getD_getElem?, this]
    rfl
  refine calls_of_wp hf (bodyOf_ok hb) (Code.wp_mono ?_ (hr.o bs0 _ w hAt))
  intro e a w q
  cases e <;> exact q
theorem bk_nil (w : World) : Bk [] [] w := ⟨rfl, fun k vs h => by simp at h, fun i j hi => by simp at hi⟩
theorem bk_one {w : World} {b : Nat} {vs : List Value} (h : BoxL w b vs) : Bk [b] [vs] w := by
  refine ⟨rfl, fun k us e => ?_, fun i j hi hj hij => ?_⟩
  · cases k with
    | zero => simp at e; subst e; exact h
    | succ k => simp at e
  · simp at hi hj; omega
/-- What comes next, alone. -/
def nxt (c : Cfg) : Option (Oper × Hd) :=
  match c.hd.k with
  | 1 => match c.hd.l with
    | o :: l => match wnt c.hd.ops o c.st.s with
      | 1 => some (o, ⟨1, c.hd.ops, l, 0, #[], [], []⟩)
      | _ => none
    | [] => none
  | 2 => match rdy c.hd, c.hd.fu with
    | [i], f + 1 => (c.hd.ops[i]?).bind fun o => match wnt c.hd.ops o c.st.s with
      | 1 => some (o, nxD c.hd f i)
      | _ => none
    | _, _ => none
  | _ => none
theorem core {c : Cfg} {o : Oper} {hd' : Hd} (h : nxt c = some (o, hd')) (H : ∀ bs a w, At C bs c.st a w → ∀ (K : Act → World → Prop) Q', (∀ bs' a' w' st', At C bs' st' a' w' → Tch bs bs' w w' → Stay c.hd.M bs w w' → Runs P C Q ⟨hd', c.r, st'⟩ → K a' w') → o.wp P a w K Q') : Runs P C Q c := by
  refine ⟨?_⟩
  intro bs a w A
  unfold nxt at h
  split at h
  next hk =>
    split at h
    next o' l hl =>
      split at h
      next hw =>
        cases h
        rw [hk, hl]
        refine wpList_step fun K hK => ?_
        rw [if_pos ((wnt_ok A).1 hw)]
        exact H bs a w A K _ fun bs' a' w' st' A' _ _ hr => hK a' w' (hr.o bs' a' w' A')
      · cases h
    · cases h
  next hk =>
    rw [hk]
    intro bs0 hp hl hB hF
    split at h
    next i f hr hf =>
      obtain ⟨o', h1, h2⟩ := Option.bind_eq_some_iff.1 h
      split at h2
      next hw =>
        cases h2
        rw [hf]
        refine one_ok h1 hr fun K hK => ?_
        rw [if_pos ((wnt_ok A).1 hw)]
        refine H bs a w A K _ fun bs' a' w' st' A' t s hr => ?_
        have hB' := bxM_on hB hp hl A'.b t s
        have hF' := fun x hx => Mf.on (hF x hx) t
        exact hK a' w' ⟨hB', fun x hx => (hF' x hx).1⟩ (hr.o bs' a' w' A' bs0 (pre_on hp t) hl hB' hF')
      · cases h2
    · cases h
  · cases h
def argsS (s : List (Nat × SV)) : List Operand → Option (List SV)
  | [] => some []
  | x :: r => (evS s x).bind fun v => (argsS s r).map fun l => v :: l
theorem argsS_ok {n m : Nat} {bs : List Nat} {s : List (Nat × SV)} {a : Act} (A : Fr n bs m s a) : ∀ {xs : List Operand} {vs : List SV}, argsS s xs = some vs → xs.map a.eval = vs.map (·.den bs)
  | [], vs, h => by cases h; rfl
  | x :: r, vs, h => by
    obtain ⟨v, h1, h2⟩ := Option.bind_eq_some_iff.1 h
    obtain ⟨l, h3, rfl⟩ := Option.map_eq_some_iff.1 h2
    rw [List.map_cons, (evS_ok A h1).1, argsS_ok A h3]
    rfl
def entB (P : Program) (f : FuncId) : Bool :=
  match P.funcs[f]? with
  | some fn => fn.body.isSome && !(fn.name == "runtime.NumGoroutine")
  | none => false
theorem entB_ok {f : FuncId} (h : entB P f = true) (args : Array Value) (w : World) : (callFunc f args).run P w = .ok (.enter f args) w := by
  unfold entB at h
  split at h
  next fn hf =>
    obtain ⟨h1, h2⟩ := Bool.and_eq_true_iff.1 h
    have h3 : fn.name ≠ "runtime.NumGoroutine" := by simpa using h2
    cases hb : fn.body with
    | none => rw [hb] at h1; cases h1
    | some c => simp [callFunc, hf, h3, hb, mark]
  · cases h
/-- Who is called, of what. -/
def calS (P : Program) (n : Nat) (s : List (Nat × SV)) (o : Oper) : Option (FuncId × List SV) :=
  match o.op with
  | .call c => match c.callee with
    | .value f => ((evS s f).bind plain).bind fun v => match v with
      | .func (.func g) fs cs => bif entB P g && (match o.dst with | some d => Nat.blt d n | none => true) then (argsS s c.args.toList).map fun l => (g, fs.toList.map vv ++ l ++ cs.toList.map vv) else none
      | _ => none
    | _ => none
  | _ => none
theorem vv_map (bs : List Nat) (l : List Value) : (l.map vv).map (·.den bs) = l := by
  rw [List.map_map]
  exact List.map_id l
theorem calS_ok {n m : Nat} {bs : List Nat} {s : List (Nat × SV)} {a : Act} {w : World} {o : Oper} {f : FuncId} {vs : List SV} (A : Fr n bs m s a) (h : calS P n s o = some (f, vs)) : (execOp a.eval o).run P w = .ok (.enter f (vs.map (·.den bs)).toArray) w ∧ (∀ d, o.dst = some d → d < n) := by
  unfold calS at h
  split at h
  next c ho =>
    split at h
    next fo hc =>
      obtain ⟨v, h1, h2⟩ := Option.bind_eq_some_iff.1 h
      obtain ⟨y, h3, h4⟩ := Option.bind_eq_some_iff.1 h1
      split at h2
      next g fs cs =>
        cases hb : (entB P g && (match o.dst with | some d => Nat.blt d n | none => true)) with
        | false => rw [hb] at h2; cases h2
        | true =>
          rw [hb] at h2
          obtain ⟨l, h5, h6⟩ := Option.map_eq_some_iff.1 h2
          cases h6
          obtain ⟨b1, b2⟩ := Bool.and_eq_true_iff.1 hb
          refine ⟨?_, fun d hd => by rw [hd] at b2; exact Nat.le_of_ble_eq_true b2⟩
          have hf : a.eval fo = .func (.func f) fs cs := by rw [(evS_ok A h3).1, plain_ok h4]
          have ha := argsS_ok A h5
          have hargs : (fs ++ c.args.map a.eval ++ cs) = ((fs.toList.map vv ++ l ++ cs.toList.map vv).map (·.den bs)).toArray := by
            apply Array.ext'
            rw [List.map_append, List.map_append, vv_map, vv_map, ← ha]
            simp
          rw [← hargs]
          unfold execOp
          simp [ho, resolve, hc, hf, Deferred.ofValue, invoke, entB_ok b1]
      · cases h2
    · cases h
  · cases h
def sput (d : Option Nat) (x : SV) (s : List (Nat × SV)) : List (Nat × SV) := match d with | some d => (d, x) :: s | none => s
theorem At.sput {bs : List Nat} {st : SS} {a : Act} {w : World} (A : At C bs st a w) {d : Option Nat} (hd : ∀ d', d = some d' → d' < C.n) {x : SV} (hx : x.ok st.b.length) : At C bs ⟨En.sput d x st.s, st.b, st.m⟩ (a.put d (x.den bs)) w := by
  cases d with
  | none => exact A
  | some d => exact A.put (hd d rfl) hx
def calC (P : Program) (n : Nat) (c : Cfg) : Option (FuncId × List SV) := (nxt c).bind fun p => calS P n c.st.s p.1
def aft (c : Cfg) (x : SV) (B : List (List Value)) (ms : List Mf) : Cfg :=
  match nxt c with
  | some p => ⟨p.2, c.r, ⟨sput p.1.dst x c.st.s, B, ms⟩⟩
  | none => c
/-- A call by its contract, that leaves boxes alone. -/
theorem call {c : Cfg} (f : FuncId) (vs : List SV) (hm : P.follows .mixedOrders = true) (h : calC P C.n c = some (f, vs))
    (H : ∀ bs a w, At C bs c.st a w → Calls P f (vs.map (·.den bs)).toArray w fun e w' => ∃ v ms, e = .returned v ∧ Below w.heap.size w w' ∧ (∀ x ∈ ms, x.L w' ∧ ∀ b ∈ bs, x.O b) ∧ Runs P C Q (go P C.n 9999 (aft c (vv v) c.st.b (ms ++ c.st.m)))) : Runs P C Q c := by
  obtain ⟨⟨o, hd'⟩, h1, h2⟩ := Option.bind_eq_some_iff.1 h
  refine core h1 fun bs a w A K Q' hK => ?_
  obtain ⟨h3, h4⟩ := calS_ok (w := w) A.f h2
  unfold Oper.wp
  rw [h3, Oper.upon_enter]
  refine (H bs a w A).mono fun e w' he => ?_
  obtain ⟨v, ms, rfl, hb, hms, hr⟩ := he
  have A' := ((A.keep hb).sput h4 (vv_ok _ v)).more hms
  refine hK bs _ w' _ A' (Tch.below hb) (Stay.below A.b hb) ?_
  have hr' := go_ok hm _ hr
  unfold aft at hr'
  rw [h1] at hr'
  exact hr'
/-- A call that writes boxes. -/
theorem callW {c : Cfg} (f : FuncId) (vs : List SV) (hm : P.follows .mixedOrders = true) (h : calC P C.n c = some (f, vs))
    (H : ∀ bs a w, At C bs c.st a w → Calls P f (vs.map (·.den bs)).toArray w fun e w' => ∃ v B ms, e = .returned v ∧ B.length = c.st.b.length ∧ Bk bs B w' ∧ Tch bs bs w w' ∧ Stay c.hd.M bs w w' ∧ (∀ x ∈ ms, x.L w' ∧ ∀ b ∈ bs, x.O b) ∧ Runs P C Q (go P C.n 9999 (aft c (vv v) B (ms ++ c.st.m)))) : Runs P C Q c := by
  obtain ⟨⟨o, hd'⟩, h1, h2⟩ := Option.bind_eq_some_iff.1 h
  refine core h1 fun bs a w A K Q' hK => ?_
  obtain ⟨h3, h4⟩ := calS_ok (w := w) A.f h2
  unfold Oper.wp
  rw [h3, Oper.upon_enter]
  refine (H bs a w A).mono fun e w' he => ?_
  obtain ⟨v, B, ms, rfl, hBl, hB, t, s, hms, hr⟩ := he
  have A' := ((A.boxes hBl hB t).sput h4 (vv_ok _ v)).more hms
  refine hK bs _ w' _ A' t s ?_
  have hr' := go_ok hm _ hr
  unfold aft at hr'
  rw [h1] at hr'
  exact hr'
/-- A test that is not known. -/
def pendI (c : Cfg) : Option Nat :=
  match c.hd.k with
  | 0 => match c.r with
    | x :: _ => match x.c with
      | .cond (.tmp i) _ _ => some i
      | _ => none
    | [] => none
  | 1 => match c.hd.l with
    | o :: _ => o.guard.bind fun g => (c.hd.ops[g.1]?).bind (·.dst)
    | [] => none
  | _ => (rdy c.hd).findSome? fun i => (c.hd.ops[i]?).bind fun o => match wnt c.hd.ops o c.st.s with
    | 0 => o.guard.bind fun g => (c.hd.ops[g.1]?).bind (·.dst)
    | _ => none
def pendB (c : Cfg) : Option Bool := (pendI c).bind fun i => ((c.st.s.lookup i).bind plain).bind boolV
def setq (c : Cfg) (q : Nat) : Cfg := ⟨c.hd, c.r, ⟨((pendI c).getD 0, vbq q) :: c.st.s, c.st.b, c.st.m⟩⟩
theorem setq_ok {c : Cfg} {q : Nat} (hq : q = 1 ∨ q = 2) (h : pendB c = some (Nat.beq q 1)) (H : Runs P C Q (setq c q)) : Runs P C Q c := by
  obtain ⟨i, h1, h2⟩ := Option.bind_eq_some_iff.1 h
  obtain ⟨v, h3, h4⟩ := Option.bind_eq_some_iff.1 h2
  obtain ⟨y, h5, h6⟩ := Option.bind_eq_some_iff.1 h3
  refine ⟨?_⟩
  intro bs a w A
  have hv := boolV_ok h4
  have A' := A.same (d := i) (x := vbq q) (y := y) h5 (by rw [plain_ok h6, hv]; rfl) (by rcases hq with rfl | rfl; exact (vbq_ok _).1; exact (vbq_ok _).2)
  have := H.o bs a w
  unfold setq at this
  rw [h1] at this
  exact this A'
theorem split {c : Cfg} (b : Bool) (hm : P.follows .mixedOrders = true) (h : pendB c = some b) (ht : b = true → Runs P C Q (go P C.n 9999 (setq c 1))) (hf : b = false → Runs P C Q (go P C.n 9999 (setq c 2))) : Runs P C Q c := by
  cases b with
  | true => exact setq_ok (.inl rfl) h (go_ok hm _ (ht rfl))
  | false => exact setq_ok (.inr rfl) h (go_ok hm _ (hf rfl))
/-- A test of which it is known what it comes to. -/
theorem yes {c : Cfg} (b : Bool) (hm : P.follows .mixedOrders = true) (h : pendB c = some b) (hb : b = true) (ht : Runs P C Q (go P C.n 9999 (setq c 1))) : Runs P C Q c := split b hm h (fun _ => ht) (fun e => by rw [hb] at e; cases e)
theorem no {c : Cfg} (b : Bool) (hm : P.follows .mixedOrders = true) (h : pendB c = some b) (hb : b = false) (ht : Runs P C Q (go P C.n 9999 (setq c 2))) : Runs P C Q c := split b hm h (fun e => by rw [hb] at e; cases e) (fun _ => ht)
/-- The next operation, or one that may be taken first. -/
def tkO (c : Cfg) (i : Nat) : Option (Oper × Hd) :=
  match c.hd.k with
  | 1 => match c.hd.l with
    | o :: l => match wnt c.hd.ops o c.st.s with
      | 1 => some (o, ⟨1, c.hd.ops, l, 0, #[], [], []⟩)
      | _ => none
    | [] => none
  | 2 => match c.hd.fu with
    | f + 1 => bif Region.noSelect c.hd.ops && (Region.free .any c.hd.ops c.hd.li i && (rdy c.hd).contains i) then (c.hd.ops[i]?).bind fun o => match wnt c.hd.ops o c.st.s with
      | 1 => some (o, nxD c.hd f i)
      | _ => none
      else none
    | 0 => none
  | _ => none
def fcts (c : Cfg) : List Mf := match c.hd.k with | 1 => c.st.m | _ => c.hd.m0
def aftT (c : Cfg) (i : Nat) (x : SV) : Cfg :=
  match tkO c i with
  | some p => ⟨p.2, c.r, ⟨sput p.1.dst x c.st.s, c.st.b, c.st.m⟩⟩
  | none => c
def tkD (n : Nat) (c : Cfg) (i : Nat) : Option Oper := (tkO c i).bind fun p => bif (match p.1.dst with | some d => Nat.blt d n | none => true) then some p.1 else none
theorem toldS {c : Cfg} (i : Nat) {o : Oper} (y : SV) (hyo : okB c.st.b.length y = true) (hm : P.follows .mixedOrders = true) (h : tkD C.n c i = some o) (hv : ∀ bs a w, Fr C.n bs c.st.b.length c.st.s a → (∀ x ∈ fcts c, x.L w) → (execOp a.eval o).run P w = .ok (.value (y.den bs)) w) (H : Runs P C Q (go P C.n 9999 (aftT c i y))) : Runs P C Q c := by
  obtain ⟨⟨o', hd'⟩, h1, h2⟩ := Option.bind_eq_some_iff.1 h
  have H := go_ok hm _ H
  unfold aftT at H
  rw [h1] at H
  cases hd : (match o'.dst with | some d => Nat.blt d C.n | none => true) with
  | false => simp only [hd] at h2; cases h2
  | true =>
    simp only [hd, cond_true] at h2
    cases h2
    have hdd : ∀ d, o.dst = some d → d < C.n := fun d e => by rw [e] at hd; exact Nat.le_of_ble_eq_true hd
    refine ⟨?_⟩
    intro bs a w A
    unfold tkO at h1
    unfold fcts at hv
    split at h1
    next hk =>
      split at h1
      next o'' l hl =>
        split at h1
        next hw =>
          cases h1
          simp only [hk] at hv
          rw [hk, hl]
          refine wpList_step fun K hK => ?_
          rw [if_pos ((wnt_ok A).1 hw)]
          unfold Oper.wp
          rw [hv bs a w A.f (fun x hx => (A.m x hx).1), Oper.upon_value]
          exact hK _ _ (H.o bs _ w (A.sput hdd (okB_ok hyo)))
        · cases h1
      · cases h1
    next hk =>
      simp only [hk] at hv
      rw [hk]
      intro bs0 hp hl hB hF
      split at h1
      next f hf =>
        cases hc : (Region.noSelect c.hd.ops && (Region.free .any c.hd.ops c.hd.li i && (rdy c.hd).contains i)) with
        | false => rw [hc] at h1; cases h1
        | true =>
          rw [hc] at h1
          obtain ⟨o'', h3, h4⟩ := Option.bind_eq_some_iff.1 h1
          split at h4
          next hw =>
            cases h4
            obtain ⟨c1, c2⟩ := Bool.and_eq_true_iff.1 hc
            obtain ⟨c3, c4⟩ := Bool.and_eq_true_iff.1 c2
            rw [hf]
            refine wpAnyH_take (v := y.den bs) h3 c1 c3 c4 (fun _ _ _ h => h) (.inl ⟨(wnt_ok A).1 hw, fun w1 hS => hv bs a w1 A.f hS.2⟩) ⟨hB, fun x hx => (hF x hx).1⟩ ?_
            exact H.o bs _ w (A.sput hdd (okB_ok hyo)) bs0 hp hl hB hF
          · cases h4
      · cases h1
    · cases h1
theorem told {c : Cfg} (i : Nat) {o : Oper} (v : Value) (hm : P.follows .mixedOrders = true) (h : tkD C.n c i = some o) (hv : ∀ bs a w, Fr C.n bs c.st.b.length c.st.s a → (∀ x ∈ fcts c, x.L w) → (execOp a.eval o).run P w = .ok (.value v) w) (H : Runs P C Q (go P C.n 9999 (aftT c i (vv v)))) : Runs P C Q c := toldS i (vv v) rfl hm h hv H
/-- The address of an array's element, in a box. -/
def idxB (P : Program) (s : List (Nat × SV)) (o : Oper) : Option (Nat × Nat × Nat × Int × Nat) :=
  match o.op with
  | .indexAddr T x y => match P.underlying T with
    | some (.array len e) => (P.info? e).bind fun ti => (evS s x).bind fun v => (evI s y).bind fun j => bif isB v then some (v.k, v.o, len, j, ti.size) else none
    | _ => none
  | _ => none
theorem idxA {c : Cfg} (i : Nat) (j k o' len sz : Nat) {y : Int} (hm : P.follows .mixedOrders = true) (h : ((tkD C.n c i).bind (idxB P c.st.s)) = some (k, o', len, y, sz)) (hk : Nat.blt k c.st.b.length = true) (hy : y = (j : Int)) (hj : j < len) (H : Runs P C Q (go P C.n 9999 (aftT c i (bx k (o' + j * sz))))) : Runs P C Q c := by
  obtain ⟨o, h1, h2⟩ := Option.bind_eq_some_iff.1 h
  refine toldS i (bx k (o' + j * sz)) hk hm h1 (fun bs a w A _ => ?_) H
  unfold idxB at h2
  split at h2
  next T x y' ho =>
    split at h2
    next l e hu =>
      obtain ⟨ti, h3, h4⟩ := Option.bind_eq_some_iff.1 h2
      obtain ⟨v, h5, h6⟩ := Option.bind_eq_some_iff.1 h4
      obtain ⟨j', h7, h8⟩ := Option.bind_eq_some_iff.1 h6
      cases hp : isB v with
      | false => rw [hp] at h8; cases h8
      | true =>
        rw [hp] at h8
        cases h8
        have hx : a.eval x = .pointer (some ⟨bs.getD v.k 0, v.o, none⟩) := by rw [(evS_ok A h5).1]; unfold SV.den; rw [hp]; rfl
        have hyy := evI_ok A h7
        subst hy
        obtain ⟨B, hB⟩ : ∃ B, bs.getD v.k 0 = B := ⟨_, rfl⟩
        have hd : (bx v.k (v.o + j * ti.size)).den bs = .pointer (some ⟨B, v.o + j * ti.size, none⟩) := by rw [← hB]; rfl
        rw [hd]
        rw [hB] at hx
        unfold execOp
        simp [ho, hx, hyy, Instr.indexAt, Instr.sureAddr, asIntOf, run_underlying hu, hj, sizeOf, typeInfo, h3, Addr.add]
    · cases h2
  · cases h2
/-- The address of an element. -/
def idxV (P : Program) (s : List (Nat × SV)) (o : Oper) : Option (Option Addr × Nat × Int × Nat) :=
  match o.op with
  | .indexAddr T x y => match P.underlying T with
    | some (.slice e) => (P.info? e).bind fun ti => (evV s x).bind fun v => (evI s y).bind fun j => match v with
      | .slice ao m _ => some (ao, m, j, ti.size)
      | _ => none
    | _ => none
  | _ => none
theorem idx {c : Cfg} (i : Nat) (j b off sz : Nat) {ao : Option Addr} {m : Nat} {y : Int} (hm : P.follows .mixedOrders = true) (h : ((tkD C.n c i).bind (idxV P c.st.s)) = some (ao, m, y, sz)) (ha : ao = some ⟨b, off, none⟩) (hy : y = (j : Int)) (hj : j < m) (H : Runs P C Q (go P C.n 9999 (aftT c i (vv (.pointer (some ⟨b, off + j * sz, none⟩)))))) : Runs P C Q c := by
  obtain ⟨o, h1, h2⟩ := Option.bind_eq_some_iff.1 h
  refine told i _ hm h1 (fun bs a w A _ => ?_) H
  unfold idxV at h2
  split at h2
  next T x y' ho =>
    split at h2
    next e hu =>
      obtain ⟨ti, h3, h4⟩ := Option.bind_eq_some_iff.1 h2
      obtain ⟨v, h5, h6⟩ := Option.bind_eq_some_iff.1 h4
      obtain ⟨j', h7, h8⟩ := Option.bind_eq_some_iff.1 h6
      split at h8
      next ao' m' c' =>
        cases h8
        have hx := evV_ok A h5
        have hyy := evI_ok A h7
        subst ha hy
        unfold execOp
        simp [ho, hx, hyy, Instr.indexAt, asIntOf, run_underlying hu, hj, sizeOf, typeInfo, h3, Addr.add]
      · cases h8
    · cases h2
  · cases h2
/-- What lies elsewhere is read. -/
def ldV (P : Program) (s : List (Nat × SV)) (o : Oper) : Option (Nat × Nat × Nat) :=
  match o.op with
  | .load T x => (tyK P T).bind fun k => (evV s x).bind fun v => match v with
    | .pointer (some ⟨b, off, none⟩) => some (k, b, off)
    | _ => none
  | _ => none
theorem ld1 {c : Cfg} (i : Nat) {b off : Nat} (v : Value) (hm : P.follows .mixedOrders = true) (h : ((tkD C.n c i).bind (ldV P c.st.s)) = some (0, b, off)) (hv : ∀ w, (∀ x ∈ fcts c, x.L w) → w.cell? ⟨b, off, none⟩ = some v) (H : Runs P C Q (go P C.n 9999 (aftT c i (vv v)))) : Runs P C Q c := by
  obtain ⟨o, h1, h2⟩ := Option.bind_eq_some_iff.1 h
  refine told i _ hm h1 (fun bs a w A hF => ?_) H
  unfold ldV at h2
  split at h2
  next T x ho =>
    obtain ⟨k, h3, h4⟩ := Option.bind_eq_some_iff.1 h2
    obtain ⟨v', h5, h6⟩ := Option.bind_eq_some_iff.1 h4
    split at h6
    next b' off' =>
      cases h6
      obtain ⟨td, u1, u2, _⟩ := tyK_cell h3
      exact r_ld u1 u2 ho (evV_ok A h5) (hv w hF)
    · cases h6
  · cases h2
theorem ldR {c : Cfg} (i : Nat) {b off k : Nat} (vs : List Value) (hm : P.follows .mixedOrders = true) (h : ((tkD C.n c i).bind (ldV P c.st.s)) = some (k + 1, b, off)) (hl : vs.length = k) (hv : ∀ w, (∀ x ∈ fcts c, x.L w) → w.rangeAt b off vs) (H : Runs P C Q (go P C.n 9999 (aftT c i (vv (.agg vs.toArray))))) : Runs P C Q c := by
  obtain ⟨o, h1, h2⟩ := Option.bind_eq_some_iff.1 h
  refine told i _ hm h1 (fun bs a w A hF => ?_) H
  unfold ldV at h2
  split at h2
  next T x ho =>
    obtain ⟨k', h3, h4⟩ := Option.bind_eq_some_iff.1 h2
    obtain ⟨v', h5, h6⟩ := Option.bind_eq_some_iff.1 h4
    split at h6
    next b' off' =>
      cases h6
      obtain ⟨td, u1, u2, u3⟩ := tyK_row h3
      exact r_ls u1 u2 (by rw [hl]; exact u3) ho (evV_ok A h5) (hv w hF)
    · cases h6
  · cases h2
/-- A fact among those that hold wherever. -/
theorem fct {c : Cfg} {w : World} (F : ∀ x ∈ fcts c, x.L w) (i : Nat) (x : Mf) (h : (fcts c)[i]? = some x) : x.L w := F x (List.mem_of_getElem? h)
/-- The end. -/
def resO (P : Program) (st : SS) : ResultVar → Option Value
  | .tmp t => (st.s.lookup t).bind plain
  | .cell t T => (st.s.lookup t).bind fun y => bif isB y then (st.b[y.k]?).bind fun us => (ldS P T us y.o).bind plain else none
def resF (a : Act) (r : ResultVar) : Sem Value :=
  match r with
  | .tmp t => pure (a.tmps.getD t undef)
  | .cell x t => do loadVar t (← asAddr (a.tmps.getD x undef))
theorem resO_ok {bs : List Nat} {st : SS} {a : Act} {w : World} {r : ResultVar} {v : Value} (A : At C bs st a w) (h : resO P st r = some v) : (resF a r).run P w = .ok v w := by
  cases r with
  | tmp t =>
    obtain ⟨y, h1, h2⟩ := Option.bind_eq_some_iff.1 h
    have := (A.f.g t y h1).1
    rw [plain_ok h2] at this
    unfold resF
    simp only [this]
    rfl
  | cell t T =>
    obtain ⟨y, h1, h2⟩ := Option.bind_eq_some_iff.1 h
    cases hp : isB y with
    | false => rw [hp] at h2; cases h2
    | true =>
      rw [hp] at h2
      simp only [cond_true] at h2
      obtain ⟨us, h3, h4⟩ := Option.bind_eq_some_iff.1 h2
      obtain ⟨z, h5, h6⟩ := Option.bind_eq_some_iff.1 h4
      obtain ⟨b, hbe⟩ : ∃ b, bs.getD y.k 0 = b := ⟨_, rfl⟩
      have hx : a.tmps.getD t undef = .pointer (some ⟨b, y.o, none⟩) := by rw [(A.f.g t y h1).1]; unfold SV.den; rw [hp, hbe]; rfl
      have hb := A.b.b y.k us h3
      rw [hbe] at hb
      unfold resF
      simp only [hx]
      unfold ldS at h5
      split at h5
      next ht =>
        obtain ⟨td, u1, u2, _⟩ := tyK_cell ht
        obtain ⟨u, h7, rfl⟩ := Option.map_eq_some_iff.1 h5
        have : u = v := Option.some.inj h6
        subst this
        have hagg : (isAgg T).run P w = .ok false w := by
          unfold isAgg
          rw [Sem.run_bind, run_underlying u1 w]
          cases td <;> simp_all
        simp [asAddr, loadVar, hagg, hb.c _ _ h7]
      next k ht =>
        obtain ⟨td, u1, u2, u3⟩ := tyK_row ht
        cases hl : Nat.beq ((us.drop y.o).take k).length k with
        | false => rw [hl] at h5; cases h5
        | true =>
          rw [hl] at h5
          cases h5
          have hl' : ((us.drop y.o).take k).length = k := Nat.eq_of_beq_eq_true hl
          have : Value.agg ((us.drop y.o).take k).toArray = v := Option.some.inj h6
          subst this
          have := run_loadVar_mid (P := P) w b y.o T ((us.drop y.o).take k) td (hb.mid _ _ (by rw [hl'])) u1 u2 (by rw [hl']; exact u3)
          simp [asAddr, this]
      · cases h5
def resL (P : Program) (st : SS) : List ResultVar → Option (List Value)
  | [] => some []
  | r :: l => (resO P st r).bind fun v => (resL P st l).map fun vs => v :: vs
theorem resL_ok {bs : List Nat} {st : SS} {a : Act} {w : World} (A : At C bs st a w) : ∀ {rs : List ResultVar} {vs : List Value}, resL P st rs = some vs → (rs.mapM (resF a)).run P w = .ok vs w
  | [], vs, h => by cases h; rfl
  | r :: l, vs, h => by
    obtain ⟨v, h1, h2⟩ := Option.bind_eq_some_iff.1 h
    obtain ⟨us, h3, rfl⟩ := Option.map_eq_some_iff.1 h2
    have e1 := resO_ok A h1
    have e2 := resL_ok A h3
    rw [List.mapM_cons, Sem.run_bind, e1]
    simp [e2]
def oneV : List Value → Value
  | [v] => v
  | vs => .tuple vs.toArray
theorem resV_ok {fn : Func} {bs : List Nat} {st : SS} {a : Act} {w : World} {vs : List Value} (A : At C bs st a w) (h : resL P st fn.results.toList = some vs) : (results fn a.tmps).run P w = .ok (oneV vs) w := by
  have e := resL_ok A h
  have hr : results fn a.tmps = (do let vs ← fn.results.mapM (resF a); pure (if h : vs.size = 1 then vs[0] else .tuple vs)) := by
    unfold results
    congr 1
  rw [hr, Sem.run_bind, Array.mapM_eq_mapM_toList, Sem.run_map, e]
  match vs with
  | [] => rfl
  | [v] => rfl
  | v :: u :: r => rfl
theorem ex_ret : ∀ (r : List It), ex P Q r .ret = Q .ret
  | [] => rfl
  | x :: r => by
    have : ex P Q (x :: r) .ret = ex P Q r .ret := by
      conv => lhs; unfold ex
      split <;> simp_all
    rw [this, ex_ret r]
def isRet (c : Cfg) : Bool :=
  match c.hd.k, c.r with
  | 0, x :: _ => match x.k, x.c with
    | 0, .ret => true
    | _, _ => false
  | 0, [] => true
  | _, _ => false
theorem ret {fn : Func} {c : Cfg} {vs : List Value} (h : isRet c = true) (hv : resL P c.st fn.results.toList = some vs) (H : ∀ bs a w, At C bs c.st a w → R (.returned (oneV vs)) w) : Runs P C (bodyPost P fn R) c := by
  refine ⟨?_⟩
  intro bs a w A
  unfold isRet at h
  have hb : bodyPost P fn R .ret a w := ⟨A.f.d, _, resV_ok A hv, H bs a w A⟩
  split at h
  next x r hk hr =>
    split at h
    next hx hc =>
      rw [hk, hr]
      show ex P _ (x :: r) .normal a w
      unfold ex
      rw [hx]
      show x.c.wp P _ a w
      rw [hc]
      refine wp_ret ?_
      rw [ex_ret]
      exact hb
    · cases h
  next hk hr =>
    rw [hk, hr]
    exact hb
  · cases h
end
end En
end Go.Proofs.Ytbpmcabeghbalaa
