/- The second engine: what is told it. -/
import Derived.Test.YtkjpbjgepnbibaaEvD
namespace Go.Proofs.Ytkjpbjgepnbibaa
namespace Ev
open Go.RowKit
set_option maxRecDepth 100000

/-- What is wanted of a step in a region that draws. -/
structure Syw (M : List Bx) (bs bs' : List Blk) (B B' : List Bx) (w w' : World) : Prop where
  st : ∀ bs0, (∃ nb, bs = bs0 ++ nb) → Ce M B → BxM M bs0 w → BxM M bs0 w'
  ce : Ce B B'
  nl : ∀ k X, live bs' B' k = some X → (∃ j, live bs B j = some X) ∨ w.heap.size ≤ X
theorem Sty.toW {M : List Bx} {bs bs' : List Blk} {B B' : List Bx} {w w' : World} (s : Sty M bs bs' B B' w w') (hz : w.heap.size ≤ w'.heap.size) : Syw M bs bs' B B' w w' := ⟨fun _ hp hc h => bxM_on h hp hc s hz, s.ce, s.nl⟩
theorem Syw.refl (M : List Bx) (bs : List Blk) (B : List Bx) (w : World) : Syw M bs bs B B w w := (Sty.refl M bs B w).toW (Nat.le_refl _)
def argS : Nat → List SV → List (Nat × SV)
  | _, [] => []
  | k, v :: r => (k, v) :: argS (k + 1) r
theorem argS_at : ∀ (vs : List SV) (k i : Nat) (v : SV), (argS k vs).lookup i = some v → k ≤ i ∧ vs[i - k]? = some v
  | [], _, _, _, h => by cases h
  | u :: r, k, i, v, h => by
    rw [argS, List.lookup_cons] at h
    cases e : (i == k) with
    | true =>
      rw [e] at h
      have : i = k := by simpa using e
      subst this
      cases h
      simp
    | false =>
      rw [e] at h
      have hne : i ≠ k := by simpa using e
      obtain ⟨h1, h2⟩ := argS_at r (k + 1) i v h
      refine ⟨by omega, ?_⟩
      rw [show i - k = (i - (k + 1)) + 1 by omega, List.getElem?_cons_succ]
      exact h2
def bodyOf (fn : Func) : Code := fn.body.getD .skip
theorem bodyOf_ok {fn : Func} (h : fn.body.isSome = true) : fn.body = some (bodyOf fn) := by
  unfold bodyOf
  cases hb : fn.body with
  | none => rw [hb] at h; cases h
  | some c => rfl
section
variable {P : Program} {C : Cx} {Q : Exit → Act → World → Prop} {R : Ending → World → Prop}
/-- A function begins; nothing is carried out yet. -/
theorem begin0 {f : FuncId} {fn : Func} {w : World} (ss : List SV) (B : List Bx) (ms : List Mf) (bs : List Blk) (hf : P.funcs[f]? = some fn) (hb : fn.body.isSome = true) (hn : fn.ntmps = C.n) (hl : Nat.ble ss.length C.n = true)
    (A : ∀ a, Fr C.n bs (argS 0 ss) a → At C bs ⟨argS 0 ss, B, ms⟩ a w) (hok : okL bs.length ss = true)
    (h : Runs P C (bodyPost P fn R) ⟨h0, [co (bodyOf fn)], ⟨argS 0 ss, B, ms⟩⟩) : Calls P f (denL bs ss).toArray w R := by
  have hl1' : ss.length ≤ C.n := Nat.le_of_ble_eq_true hl
  have hz : (denL bs ss).toArray.size = ss.length := by rw [List.size_toArray, denL_len]
  have hAt := A { tmps := (denL bs ss).toArray ++ Array.replicate (fn.ntmps - (denL bs ss).toArray.size) undef, defers := [] } (by
    refine ⟨fun i x hx => ?_, rfl, by rw [Array.size_append, hz, Array.size_replicate, hn]; omega⟩
    obtain ⟨_, h2⟩ := argS_at ss 0 i x hx
    rw [Nat.sub_zero] at h2
    obtain ⟨hi, he⟩ := List.getElem?_eq_some_iff.1 h2
    refine ⟨?_, okL_at hok h2⟩
    have : ((denL bs ss).toArray ++ Array.replicate (fn.ntmps - (denL bs ss).toArray.size) undef)[i]? = some (x.den bs) := by
      rw [Array.getElem?_append_left (by rw [hz]; exact hi)]
      have := denL_at bs ss i
      rw [h2] at this
      simpa using this
    rw [Array.getD_eq_getD_getElem?, this]
    rfl)
  refine calls_of_wp hf (bodyOf_ok hb) (Code.wp_mono ?_ (h.o bs _ w hAt))
  intro e a w q
  cases e <;> exact q
/-- What comes next, alone. -/
def nxt (c : Cfg) : Option (Oper × Hd) :=
  match c.hd.k with
  | 1 => match c.hd.l with
    | o :: l => match wnt c.hd.ops o c.st.s with
      | 1 => some (o, ⟨1, c.hd.ops, l, 0, #[], [], [], [], [], []⟩)
      | _ => none
    | [] => none
  | 2 => match rdy c.hd, c.hd.fu with
    | [i], f + 1 => (c.hd.ops[i]?).bind fun o => match wnt c.hd.ops o c.st.s with
      | 1 => some (o, nxD c.hd f i)
      | _ => none
    | _, _ => none
  | i + 3 => match c.hd.fu with
    | f + 1 => (c.hd.ops[i]?).bind fun o => match wnt c.hd.ops o c.st.s with
      | 1 => some (o, nxD c.hd f i)
      | _ => none
    | 0 => none
  | _ => none
theorem core {c : Cfg} {o : Oper} {hd' : Hd} (h : nxt c = some (o, hd')) (H : ∀ bs a w, At C bs c.st a w → ∀ (K : Act → World → Prop) Q', (∀ bs' a' w' st', At C bs' st' a' w' → Stp bs bs' (lvs bs c.st.b) w w' → Syw (mN hd') bs bs' c.st.b st'.b w w' → Runs P C Q ⟨hd', c.r, st'⟩ → K a' w') → o.wp P a w K Q') : Runs P C Q c := by
  refine ⟨?_⟩
  intro bs a w A
  unfold nxt at h
  split at h
  next hk =>
    split at h
    next o' l hl =>
      split at h
      next hw =>
        cases h
        rw [hk]
        show wpList P c.hd.ops (ex P Q c.r) c.hd.l a w
        rw [hl]
        refine wpList_step fun K hK => ?_
        rw [if_pos ((wnt_ok A).1 hw)]
        exact H bs a w A K _ fun bs' a' w' st' A' _ _ hr => hK a' w' (hr.o bs' a' w' A')
      · cases h
    · cases h
  next hk =>
    rw [hk]
    intro bs0 hp hl hlF hMF hB hF hcF hcM
    split at h
    next i f hr hf =>
      obtain ⟨o', h1, h2⟩ := Option.bind_eq_some_iff.1 h
      split at h2
      next hw =>
        cases h2
        rw [hf]
        have hre : Region.ready .any c.hd.ops c.hd.li = [i] := hr
        refine allL (by rw [hre]; simp) fun k hk => ?_
        rw [hre] at hk
        have hk := List.mem_singleton.1 hk
        subst hk
        refine oneOf h1 fun K hK => ?_
        rw [if_pos ((wnt_ok A).1 hw)]
        refine H bs a w A K _ fun bs' a' w' st' A' t s hr => ?_
        have hB' := s.st bs0 hp (mc_Ce hcF hcM) (mc_on (i := k) hMF hB)
        have hF' := fun x hx => (hF x hx).on t.bl.size t.k s.nl
        exact hK a' w' ⟨⟨hB', fun x hx => (hF' x hx).l⟩, hr.o bs' a' w' A' bs0 (pre_on hp t) hl hlF hMF hB' hF' (hcF.trans s.ce) hcM⟩
      · cases h2
    · cases h
  next i hk =>
    rw [hk]
    intro bs0 hp hl hlF hMF hB hF hcF hcM f hf
    rw [hf] at h
    simp only at h
    obtain ⟨o', h1, h2⟩ := Option.bind_eq_some_iff.1 h
    split at h2
    next hw =>
      cases h2
      refine oneOf h1 fun K hK => ?_
      rw [if_pos ((wnt_ok A).1 hw)]
      refine H bs a w A K _ fun bs' a' w' st' A' t s hr => ?_
      have hB' := s.st bs0 hp (mc_Ce hcF hcM) (mc_on (i := i) hMF hB)
      have hF' := fun x hx => (hF x hx).on t.bl.size t.k s.nl
      exact hK a' w' ⟨⟨hB', fun x hx => (hF' x hx).l⟩, hr.o bs' a' w' A' bs0 (pre_on hp t) hl hlF hMF hB' hF' (hcF.trans s.ce) hcM⟩
    · cases h2
  · cases h
def mNx (c : Cfg) : List Bx := match nxt c with | some p => mN p.2 | none => []
def entB (P : Program) (f : FuncId) : Bool :=
  match P.funcs[f]? with
  | some fn => fn.body.isSome && !(fn.name == "runtime.NumGoroutine")
  | none => false
theorem entB_ok {f : FuncId} (h : entB P f = true) (args : Array Value) (w : World) : (callFunc f args).run P w = .ok (.enter f args) w := by
  unfold entB at h
  split at h
  next fn hf =>
    obtain ⟨h1, h2⟩ := Bool.and_eq_true_iff.1 h
    have h3 : fn.name ≠ "runtime.NumGoroutine" := by simpa using h2
    cases hb : fn.body with
    | none => rw [hb] at h1; cases h1
    | some c => simp [callFunc, hf, h3, hb, mark]
  · cases h
/-- Who is called, of what. -/
def fnS : SV → Option (FuncId × List SV × List SV)
  | .fn (.func g) x y => some (g, x, y)
  | .val v => match v with
    | .func (.func g) x y => some (g, x.toList.map .val, y.toList.map .val)
    | _ => none
  | _ => none
theorem fnS_ok {x : SV} {g : FuncId} {l r : List SV} {m : Nat} (h : fnS x = some (g, l, r)) (bs : List Blk) (hx : okB m x = true) : x.den bs = .func (.func g) (denL bs l).toArray (denL bs r).toArray ∧ okL m l = true ∧ okL m r = true := by
  unfold fnS at h
  split at h
  · cases h
    simp only [okB, Bool.and_eq_true] at hx
    exact ⟨by simp only [SV.den], hx.1, hx.2⟩
  · split at h
    · cases h
      exact ⟨by simp only [SV.den, denL_v], okL_v _ _, okL_v _ _⟩
    · cases h
  · cases h
def dstOk (n : Nat) (o : Oper) : Bool := match o.dst with | some d => Nat.blt d n | none => true
def calS (P : Program) (n : Nat) (s : List (Nat × SV)) (o : Oper) : Option (FuncId × List SV) :=
  match o.op with
  | .call c => match c.callee with
    | .value f => (evS s f).bind fun v => (fnS v).bind fun q => bif entB P q.1 && dstOk n o then (argsS s c.args.toList).map fun l => (q.1, q.2.1 ++ l ++ q.2.2) else none
    | _ => none
  | _ => none
theorem calS_ok {n : Nat} {bs : List Blk} {s : List (Nat × SV)} {a : Act} {w : World} {o : Oper} {f : FuncId} {vs : List SV} (A : Fr n bs s a) (h : calS P n s o = some (f, vs)) : (execOp a.eval o).run P w = .ok (.enter f (denL bs vs).toArray) w ∧ dstOk n o = true ∧ okL bs.length vs = true := by
  unfold calS at h
  split at h
  next c ho =>
    split at h
    next fo hc =>
      obtain ⟨v, h1, h2⟩ := Option.bind_eq_some_iff.1 h
      obtain ⟨⟨g, x, y⟩, h3, h4⟩ := Option.bind_eq_some_iff.1 h2
      simp only at h4
      cases hb : (entB P g && dstOk n o) with
      | false => rw [hb] at h4; cases h4
      | true =>
        rw [hb] at h4
        obtain ⟨l, h5, h6⟩ := Option.map_eq_some_iff.1 h4
        cases h6
        obtain ⟨b1, b2⟩ := Bool.and_eq_true_iff.1 hb
        obtain ⟨e1, e2⟩ := evS_ok A h1
        obtain ⟨g1, g2, g3⟩ := fnS_ok h3 bs e2
        obtain ⟨a1, a2⟩ := argsS_ok A h5
        refine ⟨?_, b2, okL_app (okL_app g2 a2) g3⟩
        have hf : a.eval fo = .func (.func f) (denL bs x).toArray (denL bs y).toArray := by rw [e1, g1]
        have hargs : ((denL bs x).toArray ++ c.args.map a.eval ++ (denL bs y).toArray) = (denL bs (x ++ l ++ y)).toArray := by
          apply Array.ext'
          rw [denL_app2, denL_app2, ← a1]
          simp
        rw [← hargs]
        unfold execOp
        simp [ho, resolve, hc, hf, Deferred.ofValue, invoke, entB_ok b1]
    · cases h
  · cases h
def sput (d : Option Nat) (x : SV) (s : List (Nat × SV)) : List (Nat × SV) := match d with | some d => (d, x) :: s | none => s
theorem dst_lt {n : Nat} {o : Oper} (h : dstOk n o = true) : ∀ d, o.dst = some d → d < n := fun d e => by
  unfold dstOk at h
  rw [e] at h
  exact Nat.le_of_ble_eq_true h
theorem At.sput {bs : List Blk} {st : SS} {a : Act} {w : World} (A : At C bs st a w) {d : Option Nat} (hd : ∀ d', d = some d' → d' < C.n) {x : SV} (hx : okB bs.length x = true) : At C bs ⟨Ev.sput d x st.s, st.b, st.m⟩ (a.put d (x.den bs)) w := by
  cases d with
  | none => exact A
  | some d => exact A.put (hd d rfl) hx
def calC (P : Program) (n : Nat) (c : Cfg) : Option (FuncId × List SV) := (nxt c).bind fun p => calS P n c.st.s p.1
def aft (c : Cfg) (x : SV) (B : List Bx) (ms : List Mf) : Cfg :=
  match nxt c with
  | some p => ⟨p.2, c.r, ⟨sput p.1.dst x c.st.s, B, ms⟩⟩
  | none => c
/-- A call, told what it comes to. -/
theorem callG0k (k : Nat) {c : Cfg} (f : FuncId) (vs : List SV) (hm : P.follows .mixedOrders = true) (h : calC P C.n c = some (f, vs))
    (H : ∀ bs a w, At C bs c.st a w → okL bs.length vs = true → Calls P f (denL bs vs).toArray w fun e w' => ∃ bs' x B ms, e = .returned (x.den bs') ∧ okB bs'.length x = true ∧ Bk bs' B w' ∧ Stp bs bs' (lvs bs c.st.b) w w' ∧ Syw (mNx c) bs bs' c.st.b B w w' ∧ (∀ m ∈ ms, Lies C.Z bs' B w' m) ∧ Runs P C Q (go P C.n k (aft c x B ms))) : Runs P C Q c := by
  obtain ⟨⟨o, hd'⟩, h1, h2⟩ := Option.bind_eq_some_iff.1 h
  refine core h1 fun bs a w A K Q' hK => ?_
  obtain ⟨h3, h4, h5⟩ := calS_ok (w := w) A.f h2
  unfold Oper.wp
  rw [h3, Oper.upon_enter]
  refine (H bs a w A h5).mono fun e w' he => ?_
  obtain ⟨bs', x, B, ms, rfl, hx, hB, t, s, hms, hr⟩ := he
  have A0 := (A.go hB t s.nl).sput (dst_lt h4) hx
  have A' : At C bs' ⟨Ev.sput o.dst x c.st.s, B, ms⟩ (a.put o.dst (x.den bs')) w' := ⟨A0.f, A0.b, hms, A0.t, A0.n, A0.y, A0.p⟩
  have hs : mNx c = mN hd' := by unfold mNx; rw [h1]
  rw [hs] at s
  refine hK bs' _ w' _ A' t s ?_
  have hr' := go_ok hm _ hr
  unfold aft at hr'
  rw [h1] at hr'
  exact hr'
theorem callG0 {c : Cfg} (f : FuncId) (vs : List SV) (hm : P.follows .mixedOrders = true) (h : calC P C.n c = some (f, vs))
    (H : ∀ bs a w, At C bs c.st a w → okL bs.length vs = true → Calls P f (denL bs vs).toArray w fun e w' => ∃ bs' x B ms, e = .returned (x.den bs') ∧ okB bs'.length x = true ∧ Bk bs' B w' ∧ Stp bs bs' (lvs bs c.st.b) w w' ∧ Syw (mNx c) bs bs' c.st.b B w w' ∧ (∀ m ∈ ms, Lies C.Z bs' B w' m) ∧ Runs P C Q (go P C.n 9999 (aft c x B ms))) : Runs P C Q c := callG0k 9999 f vs hm h H
theorem callGk (k : Nat) {c : Cfg} (f : FuncId) (vs : List SV) (hm : P.follows .mixedOrders = true) (h : calC P C.n c = some (f, vs))
    (H : ∀ bs a w, At C bs c.st a w → okL bs.length vs = true → Calls P f (denL bs vs).toArray w fun e w' => ∃ bs' x B ms, e = .returned (x.den bs') ∧ okB bs'.length x = true ∧ Bk bs' B w' ∧ Stp bs bs' (lvs bs c.st.b) w w' ∧ Syw (mNx c) bs bs' c.st.b B w w' ∧ (∀ m ∈ ms, Lies C.Z bs' B w' m) ∧ Runs P C Q (go P C.n k (aft c x B (ms ++ c.st.m)))) : Runs P C Q c :=
  callG0k k f vs hm h fun bs a w A ok => (H bs a w A ok).mono fun e w' he => by
    obtain ⟨bs', x, B, ms, h1, hx, hB, t, s, hms, hr⟩ := he
    exact ⟨bs', x, B, ms ++ c.st.m, h1, hx, hB, t, s, fun m hm => (List.mem_append.1 hm).elim (hms m) fun h => (A.m m h).on t.bl.size t.k s.nl, hr⟩
theorem callG {c : Cfg} (f : FuncId) (vs : List SV) (hm : P.follows .mixedOrders = true) (h : calC P C.n c = some (f, vs))
    (H : ∀ bs a w, At C bs c.st a w → okL bs.length vs = true → Calls P f (denL bs vs).toArray w fun e w' => ∃ bs' x B ms, e = .returned (x.den bs') ∧ okB bs'.length x = true ∧ Bk bs' B w' ∧ Stp bs bs' (lvs bs c.st.b) w w' ∧ Syw (mNx c) bs bs' c.st.b B w w' ∧ (∀ m ∈ ms, Lies C.Z bs' B w' m) ∧ Runs P C Q (go P C.n 9999 (aft c x B (ms ++ c.st.m)))) : Runs P C Q c := callGk 9999 f vs hm h H
/-- A call by a contract that leaves boxes alone, its arguments plain values. -/
theorem call {c : Cfg} (f : FuncId) (us : List Value) {vs : List SV} (hm : P.follows .mixedOrders = true) (h : calC P C.n c = some (f, vs)) (hp : plainL vs = some us)
    (H : ∀ bs a w, At C bs c.st a w → Calls P f us.toArray w fun e w' => ∃ v ms, e = .returned v ∧ Below w.heap.size w w' ∧ (∀ x ∈ ms, Lies C.Z bs c.st.b w' x) ∧ Runs P C Q (go P C.n 9999 (aft c (.val v) c.st.b (ms ++ c.st.m)))) : Runs P C Q c :=
  callG f vs hm h fun bs a w A _ => by
    rw [plainL_ok hp]
    refine (H bs a w A).mono fun e w' he => ?_
    obtain ⟨v, ms, rfl, hb, hms, hr⟩ := he
    exact ⟨bs, .val v, c.st.b, ms, by simp only [SV.den], by simp only [okB], A.b.below hb, Stp.below hb, (Sty.keep A.b hb).toW hb.size, hms, hr⟩
/-- A test that is not known. -/
def pendI (c : Cfg) : Option Nat :=
  match c.hd.k with
  | 0 => match c.r with
    | x :: _ => match x.c with
      | .cond (.tmp i) _ _ => some i
      | _ => none
    | [] => none
  | 1 => match c.hd.l with
    | o :: _ => o.guard.bind fun g => (c.hd.ops[g.1]?).bind (·.dst)
    | [] => none
  | 2 => (rdy c.hd).findSome? fun i => (c.hd.ops[i]?).bind fun o => match wnt c.hd.ops o c.st.s with
    | 0 => o.guard.bind fun g => (c.hd.ops[g.1]?).bind (·.dst)
    | _ => none
  | i + 3 => (c.hd.ops[i]?).bind fun o => o.guard.bind fun g => (c.hd.ops[g.1]?).bind (·.dst)
def pendB (c : Cfg) : Option Bool := (pendI c).bind fun i => (c.st.s.lookup i).bind boolS
def setq (c : Cfg) (q : Bool) : Cfg := ⟨c.hd, c.r, ⟨((pendI c).getD 0, .bit q) :: c.st.s, c.st.b, c.st.m⟩⟩
theorem setq_ok {c : Cfg} {q : Bool} (h : pendB c = some q) (H : Runs P C Q (setq c q)) : Runs P C Q c := by
  obtain ⟨i, h1, h2⟩ := Option.bind_eq_some_iff.1 h
  obtain ⟨y, h5, h6⟩ := Option.bind_eq_some_iff.1 h2
  refine ⟨?_⟩
  intro bs a w A
  have A' := A.same (d := i) (x := .bit q) (y := y) h5 (by rw [boolS_ok h6]; simp only [SV.den]) (by simp only [okB])
  have := H.o bs a w
  unfold setq at this
  rw [h1] at this
  exact this A'
theorem split {c : Cfg} (b : Bool) (hm : P.follows .mixedOrders = true) (h : pendB c = some b) (ht : b = true → Runs P C Q (go P C.n 9999 (setq c true))) (hf : b = false → Runs P C Q (go P C.n 9999 (setq c false))) : Runs P C Q c := by
  cases b with
  | true => exact setq_ok h (go_ok hm _ (ht rfl))
  | false => exact setq_ok h (go_ok hm _ (hf rfl))
/-- A test of which it is known what it comes to. -/
theorem yes {c : Cfg} (b : Bool) (hm : P.follows .mixedOrders = true) (h : pendB c = some b) (hb : b = true) (ht : Runs P C Q (go P C.n 9999 (setq c true))) : Runs P C Q c := split b hm h (fun _ => ht) (fun e => by rw [hb] at e; cases e)
theorem no {c : Cfg} (b : Bool) (hm : P.follows .mixedOrders = true) (h : pendB c = some b) (hb : b = false) (ht : Runs P C Q (go P C.n 9999 (setq c false))) : Runs P C Q c := split b hm h (fun e => by rw [hb] at e; cases e) (fun _ => ht)
/-- The next operation, or one that may be taken first. -/
def tkO (c : Cfg) (i : Nat) : Option (Oper × Hd) :=
  match c.hd.k with
  | 1 => match c.hd.l with
    | o :: l => match wnt c.hd.ops o c.st.s with
      | 1 => some (o, ⟨1, c.hd.ops, l, 0, #[], [], [], [], [], []⟩)
      | _ => none
    | [] => none
  | 2 => match c.hd.fu with
    | f + 1 => bif Region.noSelect c.hd.ops && ((Region.free .any c.hd.ops c.hd.li i && !hasN c.hd.W i) && (rdy c.hd).contains i) then (c.hd.ops[i]?).bind fun o => match wnt c.hd.ops o c.st.s with
      | 1 => some (o, nxD c.hd f i)
      | _ => none
      else none
    | 0 => none
  | _ => none
def fcts (c : Cfg) : List Mf := match c.hd.k with | 1 => c.st.m | _ => c.hd.m0
def aftT (c : Cfg) (i : Nat) (x : SV) : Cfg :=
  match tkO c i with
  | some p => ⟨p.2, c.r, ⟨sput p.1.dst x c.st.s, c.st.b, c.st.m⟩⟩
  | none => c
def tkD (n : Nat) (c : Cfg) (i : Nat) : Option Oper := (tkO c i).bind fun p => bif (match p.1.dst with | some d => Nat.blt d n | none => true) then some p.1 else none
theorem toldA {c : Cfg} (i : Nat) {o : Oper} (y : SV) (hm : P.follows .mixedOrders = true) (h : tkD C.n c i = some o) (hv : ∀ bs a0 w0, At C bs c.st a0 w0 → ∀ a w, Fr C.n bs c.st.s a → (∀ x ∈ fcts c, x.L w) → (execOp a.eval o).run P w = .ok (.value (y.den bs)) w ∧ okB bs.length y = true) (H : Runs P C Q (go P C.n 9999 (aftT c i y))) : Runs P C Q c := by
  obtain ⟨⟨o', hd'⟩, h1, h2⟩ := Option.bind_eq_some_iff.1 h
  have H := go_ok hm _ H
  unfold aftT at H
  rw [h1] at H
  cases hd : (match o'.dst with | some d => Nat.blt d C.n | none => true) with
  | false => simp only [hd] at h2; cases h2
  | true =>
    simp only [hd, cond_true] at h2
    cases h2
    have hdd : ∀ d, o.dst = some d → d < C.n := fun d e => by rw [e] at hd; exact Nat.le_of_ble_eq_true hd
    refine ⟨?_⟩
    intro bs a w A
    unfold tkO at h1
    unfold fcts at hv
    split at h1
    next hk =>
      split at h1
      next o'' l hl =>
        split at h1
        next hw =>
          cases h1
          simp only [hk] at hv
          rw [hk]
          show wpList P c.hd.ops (ex P Q c.r) c.hd.l a w
          rw [hl]
          refine wpList_step fun K hK => ?_
          rw [if_pos ((wnt_ok A).1 hw)]
          unfold Oper.wp
          obtain ⟨v1, v2⟩ := hv bs a w A a w A.f (fun x hx => (A.m x hx).l)
          rw [v1, Oper.upon_value]
          exact hK _ _ (H.o bs _ w (A.sput hdd v2))
        · cases h1
      · cases h1
    next hk =>
      simp only [hk] at hv
      rw [hk]
      intro bs0 hp hl hlF hMF hB hF hcF hcM
      split at h1
      next f hf =>
        cases hc : (Region.noSelect c.hd.ops && ((Region.free .any c.hd.ops c.hd.li i && !hasN c.hd.W i) && (rdy c.hd).contains i)) with
        | false => rw [hc] at h1; cases h1
        | true =>
          rw [hc] at h1
          obtain ⟨o'', h3, h4⟩ := Option.bind_eq_some_iff.1 h1
          split at h4
          next hw =>
            cases h4
            obtain ⟨c1, c2⟩ := Bool.and_eq_true_iff.1 hc
            obtain ⟨c3, c4⟩ := Bool.and_eq_true_iff.1 c2
            obtain ⟨c5, c6⟩ := Bool.and_eq_true_iff.1 c3
            have c7 : hasN c.hd.W i = false := by simpa using c6
            rw [hf]
            refine takeL (v := y.den bs) h3 c1 c5 c4 (fun _ _ _ h => h) (fun w => ∀ x ∈ c.hd.m0, x.L w) (fun _ => True) (sl_set c7) (fun l w _ hs => hs.2) (fun _ _ _ _ _ => trivial) trivial (.inl ⟨(wnt_ok A).1 hw, fun w1 hS => (hv bs a w A a w1 A.f hS).1⟩) ⟨hB, fun x hx => (hF x hx).l⟩ ?_
            exact H.o bs _ w (A.sput hdd (hv bs a w A a w A.f fun x hx => (hF x hx).l).2) bs0 hp hl hlF hMF (mc_on hMF hB) hF hcF hcM
          · cases h4
      · cases h1
    · cases h1
theorem told {c : Cfg} (i : Nat) {o : Oper} (y : SV) (hm : P.follows .mixedOrders = true) (h : tkD C.n c i = some o) (hv : ∀ bs a w, Fr C.n bs c.st.s a → (∀ x ∈ fcts c, x.L w) → (execOp a.eval o).run P w = .ok (.value (y.den bs)) w ∧ okB bs.length y = true) (H : Runs P C Q (go P C.n 9999 (aftT c i y))) : Runs P C Q c := toldA i y hm h (fun bs _ _ _ a w => hv bs a w) H
/-- The address of an array's element, in a box. -/
def idxB (P : Program) (s : List (Nat × SV)) (o : Oper) : Option (Nat × Nat × Nat × Int × Nat) :=
  match o.op with
  | .indexAddr T x y => match P.underlying T with
    | some (.array len e) => (P.info? e).bind fun ti => (evS s x).bind fun v => (evS s y).bind fun z => (intS z).bind fun j => match v with
      | .ptr k o' => some (k, o', len, j, ti.size)
      | _ => none
    | _ => none
  | _ => none
theorem idxA {c : Cfg} (i : Nat) (j k o' len sz : Nat) {y : Int} (hm : P.follows .mixedOrders = true) (h : ((tkD C.n c i).bind (idxB P c.st.s)) = some (k, o', len, y, sz)) (hy : y = (j : Int)) (hj : j < len) (H : Runs P C Q (go P C.n 9999 (aftT c i (.ptr k (o' + j * sz))))) : Runs P C Q c := by
  obtain ⟨o, h1, h2⟩ := Option.bind_eq_some_iff.1 h
  refine told i (.ptr k (o' + j * sz)) hm h1 (fun bs a w A _ => ?_) H
  unfold idxB at h2
  split at h2
  next T x y' ho =>
    split at h2
    next l e hu =>
      obtain ⟨ti, h3, h4⟩ := Option.bind_eq_some_iff.1 h2
      obtain ⟨v, h5, h6⟩ := Option.bind_eq_some_iff.1 h4
      obtain ⟨z, h7, h8⟩ := Option.bind_eq_some_iff.1 h6
      obtain ⟨j', h9, h10⟩ := Option.bind_eq_some_iff.1 h8
      split at h10
      next k' o'' =>
        cases h10
        obtain ⟨e1, e2⟩ := evS_ok A h5
        have hyy := intS_eval A h7 h9
        subst hy
        simp only [SV.den] at e1
        refine ⟨?_, by simpa only [okB] using e2⟩
        simp only [SV.den]
        unfold execOp
        simp [ho, e1, hyy, Instr.indexAt, Instr.sureAddr, asIntOf, run_underlying hu, hj, sizeOf, typeInfo, h3, Addr.add]
      · cases h10
    · cases h2
  · cases h2
/-- The address of an element, of a row or of what lies elsewhere. -/
def idxV (P : Program) (s : List (Nat × SV)) (o : Oper) : Option (SV × Nat × Int × Nat) :=
  match o.op with
  | .indexAddr T x y => match P.underlying T with
    | some (.slice e) => (P.info? e).bind fun ti => (evS s x).bind fun v => (evS s y).bind fun z => (intS z).bind fun j => match v with
      | .row k n => some (.row k n, n, j, ti.size)
      | .val u => match u with
        | .slice ao m c => some (.val (.slice ao m c), m, j, ti.size)
        | _ => none
      | _ => none
    | _ => none
  | _ => none
theorem idx_run {c : Cfg} {o : Oper} {v : SV} {m sz : Nat} {y : Int} (j : Nat) {bs : List Blk} {a : Act} {w : World} (A : Fr C.n bs c.st.s a) (h2 : idxV P c.st.s o = some (v, m, y, sz)) (hy : y = (j : Int)) (hj : j < m) {g off : Nat} {cc : Nat} (hv : v.den bs = .slice (some ⟨g, off, none⟩) m cc) : (execOp a.eval o).run P w = .ok (.value (.pointer (some ⟨g, off + j * sz, none⟩))) w := by
  unfold idxV at h2
  split at h2
  next T x y' ho =>
    split at h2
    next e hu =>
      obtain ⟨ti, h3, h4⟩ := Option.bind_eq_some_iff.1 h2
      obtain ⟨u, h5, h6⟩ := Option.bind_eq_some_iff.1 h4
      obtain ⟨z, h7, h8⟩ := Option.bind_eq_some_iff.1 h6
      obtain ⟨j', h9, h10⟩ := Option.bind_eq_some_iff.1 h8
      have e1 := (evS_ok A h5).1
      have hyy := intS_eval A h7 h9
      have hx : a.eval x = .slice (some ⟨g, off, none⟩) m cc ∧ j' = y ∧ ti.size = sz := by
        split at h10
        · cases h10; exact ⟨by rw [e1, hv], rfl, rfl⟩
        · split at h10
          · cases h10; exact ⟨by rw [e1, hv], rfl, rfl⟩
          · cases h10
        · cases h10
      obtain ⟨hx, rfl, rfl⟩ := hx
      subst hy
      unfold execOp
      simp [ho, hx, hyy, Instr.indexAt, asIntOf, run_underlying hu, hj, sizeOf, typeInfo, h3, Addr.add]
    · cases h2
  · cases h2
theorem idx {c : Cfg} (i : Nat) (j b off sz : Nat) {ao : Option Addr} {m m' cc : Nat} {y : Int} (hm : P.follows .mixedOrders = true) (h : ((tkD C.n c i).bind (idxV P c.st.s)) = some (.val (.slice ao m cc), m', y, sz)) (hmm : m' = m) (ha : ao = some ⟨b, off, none⟩) (hy : y = (j : Int)) (hj : j < m) (H : Runs P C Q (go P C.n 9999 (aftT c i (.val (.pointer (some ⟨b, off + j * sz, none⟩)))))) : Runs P C Q c := by
  obtain ⟨o, h1, h2⟩ := Option.bind_eq_some_iff.1 h
  subst ha hmm
  exact told i _ hm h1 (fun bs a w A _ => ⟨by simp only [SV.den]; exact idx_run (cc := cc) j A h2 hy hj (by simp only [SV.den]), by simp only [okB]⟩) H
/-- What lies elsewhere is read. -/
def ldV (P : Program) (s : List (Nat × SV)) (o : Oper) : Option (Nat × Nat × Nat) :=
  match o.op with
  | .load T x => (tyK P T).bind fun k => (evS s x).bind fun v => match v with
    | .val u => match u with
      | .pointer (some ⟨b, off, none⟩) => some (k, b, off)
      | _ => none
    | _ => none
  | _ => none
theorem ld1 {c : Cfg} (i : Nat) {b off : Nat} (v : Value) (hm : P.follows .mixedOrders = true) (h : ((tkD C.n c i).bind (ldV P c.st.s)) = some (0, b, off)) (hv : ∀ w, (∀ x ∈ fcts c, x.L w) → w.cell? ⟨b, off, none⟩ = some v) (H : Runs P C Q (go P C.n 9999 (aftT c i (.val v)))) : Runs P C Q c := by
  obtain ⟨o, h1, h2⟩ := Option.bind_eq_some_iff.1 h
  refine told i _ hm h1 (fun bs a w A hF => ⟨?_, by simp only [okB]⟩) H
  simp only [SV.den]
  unfold ldV at h2
  split at h2
  next T x ho =>
    obtain ⟨k, h3, h4⟩ := Option.bind_eq_some_iff.1 h2
    obtain ⟨v', h5, h6⟩ := Option.bind_eq_some_iff.1 h4
    split at h6
    · split at h6
      next b' off' =>
        cases h6
        obtain ⟨td, u1, u2, _⟩ := tyK_cell h3
        have e1 := (evS_ok A h5).1
        simp only [SV.den] at e1
        exact r_ld u1 u2 ho e1 (hv w hF)
      · cases h6
    · cases h6
  · cases h2
theorem ldR {c : Cfg} (i : Nat) {b off k : Nat} (vs : List Value) (hm : P.follows .mixedOrders = true) (h : ((tkD C.n c i).bind (ldV P c.st.s)) = some (k + 1, b, off)) (hl : vs.length = k) (hv : ∀ w, (∀ x ∈ fcts c, x.L w) → w.rangeAt b off vs) (H : Runs P C Q (go P C.n 9999 (aftT c i (.val (.agg vs.toArray))))) : Runs P C Q c := by
  obtain ⟨o, h1, h2⟩ := Option.bind_eq_some_iff.1 h
  refine told i _ hm h1 (fun bs a w A hF => ⟨?_, by simp only [okB]⟩) H
  simp only [SV.den]
  unfold ldV at h2
  split at h2
  next T x ho =>
    obtain ⟨k', h3, h4⟩ := Option.bind_eq_some_iff.1 h2
    obtain ⟨v', h5, h6⟩ := Option.bind_eq_some_iff.1 h4
    split at h6
    · split at h6
      next b' off' =>
        cases h6
        obtain ⟨td, u1, u2, u3⟩ := tyK_row h3
        have e1 := (evS_ok A h5).1
        simp only [SV.den] at e1
        exact r_ls u1 u2 (by rw [hl]; exact u3) ho e1 (hv w hF)
      · cases h6
    · cases h6
  · cases h2
/-- A fact among those that hold wherever. -/
theorem fct {c : Cfg} {w : World} (F : ∀ x ∈ fcts c, x.L w) (i : Nat) (x : Mf) (h : (fcts c)[i]? = some x) : x.L w := F x (List.mem_of_getElem? h)
/-- The end. -/
def resO (P : Program) (st : SS) : ResultVar → Option SV
  | .tmp t => st.s.lookup t
  | .cell t T => (st.s.lookup t).bind fun y => match y with
    | .ptr k o => match st.b[k]? with
      | some (.cells us) => ldS P T us o
      | _ => none
    | _ => none
def resF (a : Act) (r : ResultVar) : Sem Value :=
  match r with
  | .tmp t => pure (a.tmps.getD t undef)
  | .cell x t => do loadVar t (← asAddr (a.tmps.getD x undef))
theorem resO_ok {bs : List Blk} {st : SS} {a : Act} {w : World} {r : ResultVar} {v : SV} (A : At C bs st a w) (h : resO P st r = some v) : (resF a r).run P w = .ok (v.den bs) w ∧ okB bs.length v = true := by
  cases r with
  | tmp t =>
    obtain ⟨e1, e2⟩ := A.f.g t v h
    refine ⟨?_, e2⟩
    unfold resF
    simp only [e1]
    rfl
  | cell t T =>
    obtain ⟨y, h1, h2⟩ := Option.bind_eq_some_iff.1 h
    split at h2
    next k o =>
      split at h2
      next us hus =>
        obtain ⟨X, x1, hb, x3⟩ := cells_at A.b k us hus
        have hx := (A.f.g t _ h1).1
        simp only [SV.den, x1, Option.getD_some] at hx
        unfold resF
        simp only [hx]
        unfold ldS at h2
        split at h2
        next ht =>
          obtain ⟨td, u1, u2, _⟩ := tyK_cell ht
          have hagg : (isAgg T).run P w = .ok false w := by
            unfold isAgg
            rw [Sem.run_bind, run_underlying u1 w]
            cases td <;> simp_all
          have hc := hb.c o (v.den bs) (by rw [denL_at, h2]; rfl)
          exact ⟨by simp [asAddr, loadVar, hagg, hc], okL_at x3 h2⟩
        next k' ht =>
          obtain ⟨td, u1, u2, u3⟩ := tyK_row ht
          cases hl : Nat.beq ((us.drop o).take k').length k' with
          | false => rw [hl] at h2; cases h2
          | true =>
            rw [hl] at h2
            cases h2
            have hl' : ((us.drop o).take k').length = k' := Nat.eq_of_beq_eq_true hl
            have hd : (denL bs ((us.drop o).take k')).length = k' := by rw [denL_len]; exact hl'
            have := run_loadVar_mid (P := P) w X o T (denL bs ((us.drop o).take k')) td (hb.mid _ _ (by rw [hd, denL_take, denL_drop])) u1 u2 (by rw [hd]; exact u3)
            exact ⟨by simp [asAddr, this, SV.den], by simp only [okB]; exact okL_take (okL_drop x3)⟩
        · cases h2
      · cases h2
    · cases h2
def resL (P : Program) (st : SS) : List ResultVar → Option (List SV)
  | [] => some []
  | r :: l => (resO P st r).bind fun v => (resL P st l).map fun vs => v :: vs
theorem resL_ok {bs : List Blk} {st : SS} {a : Act} {w : World} (A : At C bs st a w) : ∀ {rs : List ResultVar} {vs : List SV}, resL P st rs = some vs → (rs.mapM (resF a)).run P w = .ok (denL bs vs) w ∧ okL bs.length vs = true
  | [], vs, h => by cases h; exact ⟨by simp only [denL]; rfl, by simp only [okL]⟩
  | r :: l, vs, h => by
    obtain ⟨v, h1, h2⟩ := Option.bind_eq_some_iff.1 h
    obtain ⟨us, h3, rfl⟩ := Option.map_eq_some_iff.1 h2
    obtain ⟨e1, o1⟩ := resO_ok A h1
    obtain ⟨e2, o2⟩ := resL_ok A h3
    refine ⟨?_, by simp only [okL, o1, o2, Bool.and_self]⟩
    rw [List.mapM_cons, Sem.run_bind, e1]
    simp [e2, denL]
def oneS : List SV → SV
  | [v] => v
  | vs => .tup vs
theorem resV_ok {fn : Func} {bs : List Blk} {st : SS} {a : Act} {w : World} {vs : List SV} (A : At C bs st a w) (h : resL P st fn.results.toList = some vs) : (results fn a.tmps).run P w = .ok ((oneS vs).den bs) w ∧ okB bs.length (oneS vs) = true := by
  obtain ⟨e, o⟩ := resL_ok A h
  have hr : results fn a.tmps = (do let vs ← fn.results.mapM (resF a); pure (if h : vs.size = 1 then vs[0] else .tuple vs)) := by
    unfold results
    congr 1
  rw [hr, Sem.run_bind, Array.mapM_eq_mapM_toList, Sem.run_map, e]
  match vs, o with
  | [], _ => exact ⟨by simp only [oneS, SV.den, denL]; rfl, by simp only [oneS, okB, okL]⟩
  | [v], o => exact ⟨by simp only [oneS, denL]; rfl, by simpa only [oneS, okL, Bool.and_true] using o⟩
  | v :: u :: r, o => exact ⟨by simp only [oneS, SV.den, denL]; rfl, by simpa only [oneS, okB] using o⟩
theorem ex_ret : ∀ (r : List It), ex P Q r .ret = Q .ret
  | [] => rfl
  | x :: r => by
    have : ex P Q (x :: r) .ret = ex P Q r .ret := by
      conv => lhs; unfold ex
      split <;> simp_all
    rw [this, ex_ret r]
def isRet (c : Cfg) : Bool :=
  match c.hd.k, c.r with
  | 0, x :: _ => match x.k, x.c with
    | 0, .ret => true
    | _, _ => false
  | 0, [] => true
  | _, _ => false
theorem retG {fn : Func} {c : Cfg} {vs : List SV} (h : isRet c = true) (hv : resL P c.st fn.results.toList = some vs) (H : ∀ bs a w, At C bs c.st a w → okB bs.length (oneS vs) = true → R (.returned ((oneS vs).den bs)) w) : Runs P C (bodyPost P fn R) c := by
  refine ⟨?_⟩
  intro bs a w A
  unfold isRet at h
  obtain ⟨v1, v2⟩ := resV_ok A hv
  have hb : bodyPost P fn R .ret a w := ⟨A.f.d, _, v1, H bs a w A v2⟩
  split at h
  next x r hk hr =>
    split at h
    next hx hc =>
      rw [hk, hr]
      show ex P _ (x :: r) .normal a w
      unfold ex
      rw [hx]
      show x.c.wp P _ a w
      rw [hc]
      refine wp_ret ?_
      rw [ex_ret]
      exact hb
    · cases h
  next hk hr =>
    rw [hk, hr]
    exact hb
  · cases h
/-- One fact more, that comes of others. -/
theorem more {c : Cfg} (fs : List Nat) (ms : List Mf) (x : Mf) (hm : P.follows .mixedOrders = true) (hf : (fs.map fun k => c.st.m[k]?) = ms.map some) (hL : ∀ w, (∀ m ∈ ms, m.L w) → x.L w) (hO : ∀ X, (∀ m ∈ ms, m.O X) → x.O X) (H : Runs P C Q (go P C.n 9999 ⟨c.hd, c.r, ⟨c.st.s, c.st.b, x :: c.st.m⟩⟩)) : Runs P C Q c := by
  have H := go_ok hm _ H
  refine ⟨?_⟩
  intro bs a w A
  have hms : ∀ m ∈ ms, m ∈ c.st.m := fun m hm => by
    obtain ⟨j, hj, he⟩ := List.mem_iff_getElem.1 hm
    have h1 := congrArg (fun l => l[j]?) hf
    simp only [List.getElem?_map, List.getElem?_eq_getElem hj, Option.map_some, he] at h1
    cases e : fs[j]? with
    | none => rw [e] at h1; cases h1
    | some k =>
      rw [e] at h1
      exact List.mem_of_getElem? (Option.some.inj h1)
  have A' := A.more (ms := [x]) fun z hz => by
    rw [List.mem_singleton.1 hz]
    exact ⟨hL w fun m hm => (A.m m (hms m hm)).l, fun k X hX => hO X fun m hm => (A.m m (hms m hm)).o k X hX, fun X hX => hO X fun m hm => (A.m m (hms m hm)).z X hX⟩
  exact H.o bs a w A'
end
end Ev
end Go.Proofs.Ytkjpbjgepnbibaa
