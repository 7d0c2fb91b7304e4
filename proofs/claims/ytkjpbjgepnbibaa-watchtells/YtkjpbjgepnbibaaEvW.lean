/- The second engine: cells that lie there from now on. -/
import Derived.Test.YtkjpbjgepnbibaaEvV
namespace Go.Proofs.Ytkjpbjgepnbibaa
open Go.RowKit
set_option maxRecDepth 100000
namespace Ev
section
variable {P : Program} {C : Cx} {Q : Exit → Act → World → Prop}
mutual
/-- A place in a box, named by its address. -/
def subP (k : Nat) (b : Blk) : SV → SV
  | .ptr j o => bif Nat.beq j k then .val (.pointer (some ⟨b.a.getD 0, o, none⟩)) else .ptr j o
  | .agg l => .agg (subQ k b l)
  | .tup l => .tup (subQ k b l)
  | .fn g x y => .fn g (subQ k b x) (subQ k b y)
  | x => x
def subQ (k : Nat) (b : Blk) : List SV → List SV
  | [] => []
  | x :: r => subP k b x :: subQ k b r
end
mutual
theorem subP_ok {bs : List Blk} {k m : Nat} : ∀ {x : SV}, okB m x = true → (subP k (bkA bs k) x).den bs = x.den bs ∧ okB m (subP k (bkA bs k) x) = true
  | .val _, h => by simp only [subP, SV.den, okB, and_self]
  | .num _, h => by simp only [subP, SV.den, okB, and_self]
  | .bit _, h => by simp only [subP, SV.den, okB, and_self]
  | .non, h => by simp only [subP, SV.den, okB, and_self]
  | .row _ _, h => by simp only [subP, true_and]; exact h
  | .ptr j n, h => by
    simp only [subP]
    cases e : Nat.beq j k with
    | true =>
      have := Nat.eq_of_beq_eq_true e
      subst this
      simp only [cond_true, SV.den, okB, and_self]
    | false => simp only [cond_false, true_and]; exact h
  | .agg l, h => by
    simp only [okB] at h
    obtain ⟨h1, h2⟩ := subQ_ok (k := k) (bs := bs) h
    simp only [subP, SV.den, okB, h1, h2, and_self]
  | .tup l, h => by
    simp only [okB] at h
    obtain ⟨h1, h2⟩ := subQ_ok (k := k) (bs := bs) h
    simp only [subP, SV.den, okB, h1, h2, and_self]
  | .fn g x y, h => by
    simp only [okB, Bool.and_eq_true] at h
    obtain ⟨h1, h2⟩ := subQ_ok (k := k) (bs := bs) h.1
    obtain ⟨h3, h4⟩ := subQ_ok (k := k) (bs := bs) h.2
    simp only [subP, SV.den, okB, h1, h2, h3, h4, Bool.and_self, and_self]
theorem subQ_ok {bs : List Blk} {k m : Nat} : ∀ {l : List SV}, okL m l = true → denL bs (subQ k (bkA bs k) l) = denL bs l ∧ okL m (subQ k (bkA bs k) l) = true
  | [], _ => by simp only [subQ, okL, and_self]
  | x :: r, h => by
    simp only [okL, Bool.and_eq_true] at h
    obtain ⟨h1, h2⟩ := subP_ok (k := k) (bs := bs) h.1
    obtain ⟨h3, h4⟩ := subQ_ok (k := k) (bs := bs) h.2
    simp only [subQ, denL, okL, h1, h2, h3, h4, Bool.and_self, and_self]
end
def subY (k : Nat) (b : Blk) : Bx → Bx
  | .cells l => .cells (subQ k b l)
  | x => x
/-- Cells that lie there. -/
def mfB (vs : List Value) (b : Blk) : Mf := ⟨fun w => ∃ X, b.a = some X ∧ BoxL w X vs, fun X => b.a ≠ some X, fun bs w w' hz hk h ho => by
  obtain ⟨X, h1, h2⟩ := h
  exact ⟨⟨X, h1, h2.same (hk X h2.lt fun hin => ho X hin h1) hz⟩, fun Y hY e => by
    rw [h1] at e
    cases e
    have := h2.lt
    omega⟩⟩
def fbxS (k : Nat) (b : Blk) (vs : List Value) (st : SS) : SS := ⟨st.s.map fun p => (p.1, subP k b p.2), (st.b.map (subY k b)).set k .dead, mfB vs b :: st.m⟩
theorem lookup_suq {k : Nat} {b : Blk} : ∀ (s : List (Nat × SV)) (i : Nat) (x : SV), (s.map fun p => (p.1, subP k b p.2)).lookup i = some x → ∃ y, s.lookup i = some y ∧ x = subP k b y
  | [], _, _, h => by simp at h
  | p :: r, i, x, h => by
    rw [List.map_cons, List.lookup_cons] at h
    rw [List.lookup_cons]
    cases e : (i == p.1) with
    | true => simp only [e] at h; exact ⟨p.2, rfl, (Option.some.inj h).symm⟩
    | false => simp only [e] at h; exact lookup_suq r i x h
theorem At.fbx {bs : List Blk} {st : SS} {a : Act} {w : World} (A : At C bs st a w) {k : Nat} {l : List SV} {vs : List Value} (hk : st.b[k]? = some (.cells l)) (hpl : plainL l = some vs) : At C bs (fbxS k (bkA bs k) vs st) a w ∧ ∀ j X, live bs (fbxS k (bkA bs k) vs st).b j = some X → j ≠ k ∧ live bs st.b j = some X := by
  have hlm : ∀ j X, live bs (st.b.map (subY k (bkA bs k))) j = some X → live bs st.b j = some X := fun j X hX => by
    unfold live at hX ⊢
    rw [List.getElem?_map] at hX
    obtain ⟨x, h1, h2⟩ := Option.bind_eq_some_iff.1 hX
    obtain ⟨y, h3, rfl⟩ := Option.map_eq_some_iff.1 h1
    rw [h3]
    cases y <;> exact h2
  have hlv : ∀ j X, live bs (fbxS k (bkA bs k) vs st).b j = some X → j ≠ k ∧ live bs st.b j = some X := fun j X hX => by
    obtain ⟨h1, h2⟩ := live_dead hX
    exact ⟨h1, hlm j X h2⟩
  have hB1 : Bk bs (st.b.map (subY k (bkA bs k))) w := by
    refine ⟨by rw [List.length_map]; exact A.b.l, fun j x hx => ?_, fun x hx => ?_, fun i j X hij hi hj => A.b.nd i j X hij (hlm i X hi) (hlm j X hj)⟩
    · rw [List.getElem?_map] at hx
      obtain ⟨y, h1, rfl⟩ := Option.map_eq_some_iff.1 hx
      have hb := A.b.b j y h1
      have hok := A.b.ok y (List.mem_of_getElem? h1)
      cases y with
      | cells l =>
        obtain ⟨X, x1, x2⟩ := hb.o
        exact ⟨⟨X, x1, by rw [(subQ_ok hok).1]; exact x2⟩⟩
      | dead => exact hb
      | row _ _ _ _ => exact hb
    · obtain ⟨y, hy, rfl⟩ := List.mem_map.1 hx
      have hok := A.b.ok y hy
      cases y with
      | cells l => exact (subQ_ok hok).2
      | dead => rfl
      | row _ _ _ _ => rfl
  have own : ∃ X, (bkA bs k).a = some X ∧ BoxL w X vs := by
    obtain ⟨X, h1, h2⟩ := (A.b.b k _ hk).o
    rw [plainL_ok hpl] at h2
    exact ⟨X, h1, h2⟩
  refine ⟨⟨⟨fun i x hx => ?_, A.f.d, A.f.z⟩, hB1.dead k, fun m hm => ?_, A.t, fun j X hX => A.n j X (hlv j X hX).2, A.y, A.p⟩, hlv⟩
  · obtain ⟨y, h1, rfl⟩ := lookup_suq _ _ _ hx
    obtain ⟨g1, g2⟩ := A.f.g i y h1
    obtain ⟨s1, s2⟩ := subP_ok (k := k) (bs := bs) g2
    exact ⟨by rw [s1]; exact g1, s2⟩
  · rcases List.mem_cons.1 hm with rfl | hm
    · have hlive : ∀ X, (bkA bs k).a = some X → live bs st.b k = some X := fun X hX => by unfold live; rw [hk]; exact hX
      exact ⟨own, fun j X hX e' => A.b.nd j k X (hlv j X hX).1 (hlv j X hX).2 (hlive X e'), fun X hX e' => by
        rcases A.n k X (hlive X e') with h | h
        · exact (A.y X hX).2 h
        · have := (A.y X hX).1; omega⟩
    · have h := A.m m hm
      exact ⟨h.l, fun j X hX => h.o j X (hlv j X hX).2, h.z⟩
/-- Cells lie there from now on: they are no box any more. -/
theorem fbx {c : Cfg} (k : Nat) {l : List SV} {vs : List Value} (hm : P.follows .mixedOrders = true) (h : (c.hd.k, c.st.b[k]?, plainL l) = (0, some (.cells l), some vs)) (H : ∀ b : Blk, Runs P C Q (go P C.n 9999 ⟨c.hd, c.r, fbxS k b vs c.st⟩)) : Runs P C Q c := by
  simp only [Prod.mk.injEq] at h
  obtain ⟨h0, h1, h2⟩ := h
  refine ⟨?_⟩
  intro bs a w A
  obtain ⟨A', _⟩ := A.fbx h1 h2
  have h' := (go_ok hm _ (H (bkA bs k))).o bs a w A'
  split
  next hk => simp only [hk] at h'; exact h'
  next hk => rw [h0] at hk; cases hk
  next hk => rw [h0] at hk; cases hk
  next hk => rw [h0] at hk; exact absurd hk (by omega)
/-- Two facts told as one. -/
def mfAnd (x y : Mf) : Mf := ⟨fun w => x.L w ∧ y.L w, fun X => x.O X ∧ y.O X, fun bs w w' hz hk h ho => by
  obtain ⟨h1, h2⟩ := x.g bs w w' hz hk h.1 fun b hb => (ho b hb).1
  obtain ⟨h3, h4⟩ := y.g bs w w' hz hk h.2 fun b hb => (ho b hb).2
  exact ⟨⟨h1, h3⟩, fun b hb => ⟨h2 b hb, h4 b hb⟩⟩⟩
/-- A function that is not nil. -/
def nfV (P : Program) (s : List (Nat × SV)) (o : Oper) : Option Bool :=
  match o.op with
  | .binOp .neq T x (.const .nilFunc) _ => match P.underlying T with
    | some (.func ..) => (evS s x).bind fun v => match v with
      | .val u => match u with
        | .func .. => some true
        | _ => none
      | _ => none
    | _ => none
  | _ => none
theorem eqf {w : World} {T : Nat} {g : Fn} {us vs : Array Value} {ps rs : Array TypeId} {va : Bool} (hu : P.underlying T = some (.func ps rs va)) : (Op.equal T (.func g us vs) .nilFunc).run P w = .ok false w := by
  unfold Op.equal Op.maxDepth Op.equalIn
  rw [Sem.run_bind, run_underlying hu]
  rfl
theorem neqF {c : Cfg} (i : Nat) (hm : P.follows .mixedOrders = true) (h : ((tkD C.n c i).bind (nfV P c.st.s)) = some true) (H : Runs P C Q (go P C.n 9999 (aftT c i (.bit true)))) : Runs P C Q c := by
  obtain ⟨o, h1, h2⟩ := Option.bind_eq_some_iff.1 h
  refine told i _ hm h1 (fun bs a w A hF => ⟨?_, by simp only [okB]⟩) H
  unfold nfV at h2
  split at h2
  next T x t ho =>
    split at h2
    next ps rs va hu =>
      obtain ⟨v, h3, h4⟩ := Option.bind_eq_some_iff.1 h2
      split at h4
      · split at h4
        next g us vs =>
          have e1 := (evS_ok A h3).1
          simp only [SV.den] at e1 ⊢
          have e2 : a.eval (.const .nilFunc) = .nilFunc := rfl
          unfold execOp
          simp only [ho, e1, e2, eqGuard, binOp]
          simp [eqf hu]
        · cases h4
      · cases h4
    · cases h2
  · cases h2
/-- What a fact tells, once and for all. -/
theorem learn {c : Cfg} {p : Prop} (j : Nat) (m : Mf) (hf : c.st.m[j]? = some m) (h : ∀ w, m.L w → p) (H : p → Runs P C Q c) : Runs P C Q c :=
  ⟨fun bs a w A => (H (h w (A.m m (List.mem_of_getElem? hf)).l)).o bs a w A⟩
theorem owns_nil (w : World) (e : TypeId) (z : Nat) : w.ownsRow 0 e z (.slice none 0 0) 0 [] := ⟨by simp, .inl ⟨rfl, rfl⟩⟩
/-- A row of nothing, beside what there is. -/
theorem nilR {c : Cfg} (e z : Nat) (hm : P.follows .mixedOrders = true) (h : Nat.ble c.hd.k 1 = true) (H : Runs P C Q (go P C.n 9999 ⟨c.hd, c.r, ⟨c.st.s, c.st.b ++ [.row e z 0 []], c.st.m⟩⟩)) : Runs P C Q c := by
  refine ⟨?_⟩
  intro bs a w A
  have A' := (A.app (M := []) none none (e := e) (z := z) (n := 0) (l := []) ⟨none, 0⟩ (fun X h => by cases h) (fun k h => by cases h) ⟨rfl, rfl, rfl, Nat.le_refl _, fun _ _ _ => rfl⟩ (owns_nil w e z) (.inl rfl)).1
  have h' := (go_ok hm _ H).o _ a w A'
  have h2 := Nat.le_of_ble_eq_true h
  split
  next hk => simp only [hk] at h'; exact h'
  next hk => simp only [hk] at h'; exact h'
  next hk => omega
  next hk => omega
/-- A contract is shown: nothing is carried out yet. -/
theorem spec0 {X Y : Type} {S : Sg X Y} {fn : Func} (n : Nat) (hf : P.funcs[S.f]? = some fn) (hb : (fn.body.isSome, fn.ntmps, fun x => (Nat.ble (S.args x).length n, Nat.ble S.p (S.boxes x).length)) = (true, n, fun _ => (true, true)))
    (H : ∀ x, S.ok x → ∀ bs w, S.p ≤ bs.length → Runs P (Cs S n x bs w) (bodyPost P fn (Rs S x bs w)) ⟨h0, [co (bodyOf fn)], ⟨argS 0 (S.args x), S.boxes x, S.pre x⟩⟩) : Spec P S := by
  refine ⟨fun x hx bs w hB hok hms => ?_⟩
  simp only [Prod.mk.injEq] at hb
  obtain ⟨b1, b2, b3⟩ := hb
  have b4 := congrFun b3 x
  simp only [Prod.mk.injEq] at b4
  have h := H x hx bs w (by rw [hB.l]; exact Nat.le_of_ble_eq_true b4.2)
  refine begin0 (C := Cs S n x bs w) (S.args x) (S.boxes x) (S.pre x) bs hf b1 b2 b4.1 (fun a hF => ?_) hok h
  refine ⟨hF, hB, fun m hmm => ⟨(hms m hmm).1, (hms m hmm).2, fun Z hZ => hZ.2.2 m hmm⟩, Tch.refl _ _, fun k X hX => .inl (mem_lvs.2 ⟨k, hX⟩), fun Z hZ => ⟨hZ.1, hZ.2.1⟩, bs.drop S.p, (List.take_append_drop _ _).symm⟩
end
end Ev
end Go.Proofs.Ytkjpbjgepnbibaa
