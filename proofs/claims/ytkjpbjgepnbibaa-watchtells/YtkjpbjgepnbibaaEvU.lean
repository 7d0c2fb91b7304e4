/- The second engine: what comes up in any order; a callee that is walked where it is called; rows that lie there from now on. -/
import Derived.Test.YtkjpbjgepnbibaaEvT
namespace Go.Proofs.Ytkjpbjgepnbibaa
namespace Ev
open Go.RowKit
set_option maxRecDepth 100000

section
variable {P : Program} {C : Cx} {Q : Exit → Act → World → Prop}
/-- Number i comes next. -/
def pick (c : Cfg) (i : Nat) : Cfg := ⟨⟨i + 3, c.hd.ops, c.hd.l, c.hd.fu, c.hd.li, c.hd.M, c.hd.F, c.hd.W, c.hd.D, c.hd.m0⟩, c.r, c.st⟩
theorem fork {c : Cfg} (is : List Nat) (hk : c.hd.k = 2) (hf : Nat.blt 0 c.hd.fu = true) (hr : rdy c.hd = is) (hne : is.isEmpty = false) (H : ∀ i ∈ is, Runs P C Q (pick c i)) : Runs P C Q c := by
  refine ⟨?_⟩
  intro bs a w A
  rw [hk]
  intro bs0 hp hl hlF hMF hB hF hcF hcM
  have hfu : c.hd.fu = (c.hd.fu - 1) + 1 := by have : 0 < c.hd.fu := Nat.le_of_ble_eq_true hf; omega
  have hre : Region.ready .any c.hd.ops c.hd.li = is := hr
  rw [hfu]
  refine allL (by rw [hre]; intro e; rw [e] at hne; cases hne) fun i hi => ?_
  rw [hre] at hi
  exact (H i hi).o bs a w A bs0 hp hl hlF hMF hB hF hcF hcM _ hfu
theorem fork2 {c : Cfg} (i j : Nat) (hm : P.follows .mixedOrders = true) (hk : c.hd.k = 2) (hf : Nat.blt 0 c.hd.fu = true) (hr : rdy c.hd = [i, j]) (h1 : Runs P C Q (go P C.n 9999 (pick c i))) (h2 : Runs P C Q (go P C.n 9999 (pick c j))) : Runs P C Q c :=
  fork [i, j] hk hf hr rfl fun x hx => by
    rcases List.mem_cons.1 hx with rfl | hx
    · exact go_ok hm _ h1
    · rw [List.mem_singleton.1 hx]
      exact go_ok hm _ h2
theorem fork3 {c : Cfg} (i j k : Nat) (hm : P.follows .mixedOrders = true) (hk : c.hd.k = 2) (hf : Nat.blt 0 c.hd.fu = true) (hr : rdy c.hd = [i, j, k]) (h1 : Runs P C Q (go P C.n 9999 (pick c i))) (h2 : Runs P C Q (go P C.n 9999 (pick c j))) (h3 : Runs P C Q (go P C.n 9999 (pick c k))) : Runs P C Q c :=
  fork [i, j, k] hk hf hr rfl fun x hx => by
    rcases List.mem_cons.1 hx with rfl | hx
    · exact go_ok hm _ h1
    rcases List.mem_cons.1 hx with rfl | hx
    · exact go_ok hm _ h2
    · rw [List.mem_singleton.1 hx]
      exact go_ok hm _ h3
theorem slo_ok {bs : List Blk} {st : SS} {a : Act} {w : World} (A : At C bs st a w) (ks : List Nat) : At C bs ⟨slo ks st, st.b, st.m⟩ a w := by
  refine ⟨⟨fun i x hx => A.f.g i x ?_, A.f.d, A.f.z⟩, A.b, A.m, A.t, A.n, A.y, A.p⟩
  have := lookup_mem hx
  obtain ⟨k, _, hk⟩ := List.mem_filterMap.1 this
  obtain ⟨y, h1, h2⟩ := Option.map_eq_some_iff.1 hk
  cases h2
  exact h1
/-- Slots in the order of their numbers. -/
def can (n : Nat) (c : Cfg) : Cfg := ⟨c.hd, c.r, ⟨slo (List.range n) c.st, c.st.b, c.st.m⟩⟩
theorem can_ok {c : Cfg} (n : Nat) (H : Runs P C Q (can n c)) : Runs P C Q c := ⟨fun bs a w A => H.o bs a w (slo_ok A _)⟩
/-- A call, and what goes by itself, in either order. -/
theorem callA {X Y : Type} {S : Sg X Y} {c : Cfg} (i j : Nat) (sp : Spec P S) (x : X) (ks fs : List Nat) (hm : P.follows .mixedOrders = true)
    (h : (c.hd.k, Nat.blt 0 c.hd.fu, (rdy c.hd).all (fun z => Nat.beq z i || Nat.beq z j), (rdy c.hd).isEmpty, ckL P C.n S x ks fs (pick c i), ckL P C.n S x ks fs (go P C.n 9999 (pick c j)), fun y => can C.n (go P C.n 9999 (aftC S x ks (pick c i) y))) = (2, true, true, false, ckR S x ks, ckR S x ks, fun y => can C.n (go P C.n 9999 (aftC S x ks (go P C.n 9999 (pick c j)) y))))
    (hok : S.ok x) (H : ∀ y, S.yes x y → Runs P C Q (can C.n (go P C.n 9999 (aftC S x ks (go P C.n 9999 (pick c j)) y)))) : Runs P C Q c := by
  simp only [Prod.mk.injEq] at h
  obtain ⟨h1, h2, h3, h4, h5, h6, h7⟩ := h
  refine fork (rdy c.hd) h1 h2 rfl h4 fun z hz => ?_
  have hz := List.all_eq_true.1 h3 z hz
  rcases Bool.or_eq_true_iff.1 hz with e | e
  · have e := Nat.eq_of_beq_eq_true e
    subst e
    exact callC sp x ks fs hm h5 hok fun y hy => can_ok C.n (by rw [congrFun h7 y]; exact H y hy)
  · have e := Nat.eq_of_beq_eq_true e
    subst e
    exact go_ok hm 9999 (callC sp x ks fs hm h6 hok fun y hy => can_ok C.n (H y hy))
/-- Boxes that M tells of, as they are now. -/
def zipC : List Bx → List Bx → List Bx
  | .cells _ :: M, b :: B => b :: zipC M B
  | .cells _ :: M, [] => .dead :: zipC M []
  | _ :: M, _ :: B => zipC M B
  | _ :: M, [] => zipC M []
  | [], _ => []
theorem zipC_at : ∀ {M B : List Bx}, zipC M B = zipC M M → ∀ (k : Nat) (us : List SV), M[k]? = some (Bx.cells us) → B[k]? = some (Bx.cells us)
  | [], _, _, k, us, h => by simp at h
  | .cells l :: M, b :: B, e, k, us, h => by
    simp only [zipC, List.cons.injEq] at e
    cases k with
    | zero =>
      simp only [List.getElem?_cons_zero, Option.some.injEq] at h ⊢
      rw [e.1, h]
    | succ k =>
      simp only [List.getElem?_cons_succ] at h ⊢
      exact zipC_at e.2 k us h
  | .cells l :: M, [], e, k, us, h => by
    simp only [zipC, List.cons.injEq] at e
    cases e.1
  | .dead :: M, b :: B, e, k, us, h => by
    simp only [zipC] at e
    cases k with
    | zero => simp at h
    | succ k =>
      simp only [List.getElem?_cons_succ] at h ⊢
      exact zipC_at e k us h
  | .row _ _ _ _ :: M, b :: B, e, k, us, h => by
    simp only [zipC] at e
    cases k with
    | zero => simp at h
    | succ k =>
      simp only [List.getElem?_cons_succ] at h ⊢
      exact zipC_at e k us h
  | .dead :: M, [], e, k, us, h => by
    simp only [zipC] at e
    cases k with
    | zero => simp at h
    | succ k =>
      simp only [List.getElem?_cons_succ] at h
      have := zipC_at e k us h
      simp at this
  | .row _ _ _ _ :: M, [], e, k, us, h => by
    simp only [zipC] at e
    cases k with
    | zero => simp at h
    | succ k =>
      simp only [List.getElem?_cons_succ] at h
      have := zipC_at e k us h
      simp at this
def ceB : List Bx → List Bx → Bool
  | .cells _ :: B, b :: B' => isC b && ceB B B'
  | .cells _ :: _, [] => false
  | _ :: B, _ :: B' => ceB B B'
  | _ :: B, [] => ceB B []
  | [], _ => true
theorem ceB_ok : ∀ {B B' : List Bx}, ceB B B' = true → Ce B B'
  | [], _, _, k, us, h => by simp at h
  | .cells l :: B, b :: B', e, k, us, h => by
    simp only [ceB, Bool.and_eq_true] at e
    cases k with
    | zero =>
      cases b with
      | cells l' => exact ⟨l', by simp⟩
      | dead => simp [isC] at e
      | row _ _ _ _ => simp [isC] at e
    | succ k =>
      simp only [List.getElem?_cons_succ] at h ⊢
      exact ceB_ok e.2 k us h
  | .cells l :: B, [], e, k, us, h => by simp [ceB] at e
  | .dead :: B, b :: B', e, k, us, h => by
    simp only [ceB] at e
    cases k with
    | zero => simp at h
    | succ k =>
      simp only [List.getElem?_cons_succ] at h ⊢
      exact ceB_ok e k us h
  | .row _ _ _ _ :: B, b :: B', e, k, us, h => by
    simp only [ceB] at e
    cases k with
    | zero => simp at h
    | succ k =>
      simp only [List.getElem?_cons_succ] at h ⊢
      exact ceB_ok e k us h
  | .dead :: B, [], e, k, us, h => by
    simp only [ceB] at e
    cases k with
    | zero => simp at h
    | succ k =>
      simp only [List.getElem?_cons_succ] at h
      obtain ⟨_, h'⟩ := ceB_ok e k us h
      simp at h'
  | .row _ _ _ _ :: B, [], e, k, us, h => by
    simp only [ceB] at e
    cases k with
    | zero => simp at h
    | succ k =>
      simp only [List.getElem?_cons_succ] at h
      obtain ⟨_, h'⟩ := ceB_ok e k us h
      simp at h'
/-- How a callee that is walked where it is called ends. -/
def RetI (P : Program) (C : Cx) (Q : Exit → Act → World → Prop) (c : Cfg) (C' : Cx) (R : Ending → World → Prop) : Prop :=
  ∀ (x : SV) (st' : SS), Runs P C Q (go P C.n 9999 (aft c x st'.b st'.m)) → zipC (mNx c) st'.b = zipC (mNx c) (mNx c) → ceB c.st.b st'.b = true → ∀ bs' a' w', At C' bs' st' a' w' → okB bs'.length x = true → R (.returned (x.den bs')) w'
/-- A callee, walked where it is called. -/
theorem inl {c : Cfg} (f : FuncId) {fn : Func} (n : Nat) (hm : P.follows .mixedOrders = true) (hf : P.funcs[f]? = some fn) (h : ((calC P C.n c).map (·.1), fn.body.isSome, fn.ntmps, Nat.ble ((calC P C.n c).getD (0, [])).2.length n) = (some f, true, n, true))
    (H : ∀ (S0 : List Nat) (w0 : World) (Z : Nat → Prop) (b0 : List Blk) (R : Ending → World → Prop), b0.length = c.st.b.length → RetI P C Q c ⟨n, S0, w0, Z, b0⟩ R → Runs P ⟨n, S0, w0, Z, b0⟩ (bodyPost P fn R) (go P n 9999 ⟨h0, [co (bodyOf fn)], ⟨argS 0 ((calC P C.n c).getD (0, [])).2, c.st.b, c.st.m⟩⟩)) : Runs P C Q c := by
  simp only [Prod.mk.injEq] at h
  obtain ⟨h1, hb, hn, hl⟩ := h
  obtain ⟨⟨f', vs⟩, h, hq⟩ := Option.map_eq_some_iff.1 h1
  simp only at hq
  subst hq
  rw [h] at H hl
  simp only [Option.getD_some] at H hl
  refine callG0 f' vs hm h fun bs a w A ok => ?_
  let C' : Cx := ⟨n, lvs bs c.st.b, w, C.Z, bs⟩
  refine begin0 (C := C') vs c.st.b c.st.m bs hf hb hn hl (fun a' hF => ?_) ok (go_ok (C := C') hm 9999 (H (lvs bs c.st.b) w C.Z bs _ A.b.l ?_))
  · refine ⟨hF, A.b, A.m, Tch.refl _ _, fun k X hX => .inl (mem_lvs.2 ⟨k, hX⟩), fun X hX => ⟨Nat.lt_of_lt_of_le (A.y X hX).1 A.t.bl.size, fun hin => ?_⟩, [], by show bs = bs ++ []; simp⟩
    obtain ⟨k, hk⟩ := mem_lvs.1 hin
    rcases A.n k X hk with h | h
    · exact (A.y X hX).2 h
    · have := (A.y X hX).1; omega
  · intro x st' hr hz hce bs' a' w' A' okx
    obtain ⟨nb, hnb⟩ := A'.p
    have hnb : bs' = bs ++ nb := hnb
    have hnl : ∀ k X, live bs' st'.b k = some X → (∃ j, live bs c.st.b j = some X) ∨ w.heap.size ≤ X := fun k X hX => by
      rcases A'.n k X hX with h | h
      · exact .inl (mem_lvs.1 h)
      · exact .inr h
    refine ⟨bs', x, st'.b, st'.m, rfl, okx, A'.b, ⟨A'.t.bl, A'.t.k, nb, hnb⟩, ⟨fun bs0 hp hc hB k us hk => ?_, ceB_ok hce, hnl⟩, A'.m, hr⟩
    obtain ⟨X, x1, x2, x3⟩ := hB k us hk
    obtain ⟨nb0, rfl⟩ := hp
    have hk0 : k < bs0.length := by
      rcases Nat.lt_or_ge k bs0.length with h' | h'
      · exact h'
      · unfold bkA at x1
        rw [List.getD_eq_getElem?_getD, List.getElem?_eq_none h'] at x1
        cases x1
    obtain ⟨X', y1, y2⟩ := (A'.b.b k _ (zipC_at hz k us hk)).o
    have hbk : bkA bs' k = bkA bs0 k := by rw [hnb, List.append_assoc, bkA_app hk0]
    rw [hbk, x1] at y1
    cases y1
    exact ⟨X, x1, by rw [hnb, List.append_assoc, denL_app x3] at y2; exact y2, x3⟩
def resG (P : Program) (c : Cfg) (fn : Func) : SV := ((resL P c.st fn.results.toList).map oneS).getD .non
theorem retI {fn : Func} {c c' : Cfg} {C' : Cx} {R : Ending → World → Prop} (hR : RetI P C Q c C' R) (h : (isRet c', (resL P c'.st fn.results.toList).isSome, zipC (mNx c) c'.st.b, ceB c.st.b c'.st.b) = (true, true, zipC (mNx c) (mNx c), true)) (H : Runs P C Q (go P C.n 9999 (aft c (resG P c' fn) c'.st.b c'.st.m))) : Runs P C' (bodyPost P fn R) c' := by
  simp only [Prod.mk.injEq] at h
  obtain ⟨h1, h2, h3, h4⟩ := h
  cases hv : resL P c'.st fn.results.toList with
  | none => rw [hv] at h2; cases h2
  | some vs =>
    have e : resG P c' fn = oneS vs := by unfold resG; rw [hv]; rfl
    rw [e] at H
    exact retG h1 hv fun bs a w A ok => hR (oneS vs) c'.st H h3 h4 bs a w A ok
mutual
/-- A row, named by its value. -/
def subR (k : Nat) (b : Blk) : SV → SV
  | .row j n => bif Nat.beq j k then .val (.slice b.ad n b.c) else .row j n
  | .agg l => .agg (subL k b l)
  | .tup l => .tup (subL k b l)
  | .fn g x y => .fn g (subL k b x) (subL k b y)
  | x => x
def subL (k : Nat) (b : Blk) : List SV → List SV
  | [] => []
  | x :: r => subR k b x :: subL k b r
end
mutual
theorem subR_ok {bs : List Blk} {k m : Nat} : ∀ {x : SV}, okB m x = true → (subR k (bkA bs k) x).den bs = x.den bs ∧ okB m (subR k (bkA bs k) x) = true
  | .val _, h => by simp only [subR, SV.den, okB, and_self]
  | .num _, h => by simp only [subR, SV.den, okB, and_self]
  | .bit _, h => by simp only [subR, SV.den, okB, and_self]
  | .non, h => by simp only [subR, SV.den, okB, and_self]
  | .ptr _ _, h => by simp only [subR, true_and]; exact h
  | .row j n, h => by
    simp only [subR]
    cases e : Nat.beq j k with
    | true =>
      have := Nat.eq_of_beq_eq_true e
      subst this
      simp only [cond_true, SV.den, okB, and_self]
    | false => simp only [cond_false, true_and]; exact h
  | .agg l, h => by
    simp only [okB] at h
    obtain ⟨h1, h2⟩ := subL_ok (k := k) (bs := bs) h
    simp only [subR, SV.den, okB, h1, h2, and_self]
  | .tup l, h => by
    simp only [okB] at h
    obtain ⟨h1, h2⟩ := subL_ok (k := k) (bs := bs) h
    simp only [subR, SV.den, okB, h1, h2, and_self]
  | .fn g x y, h => by
    simp only [okB, Bool.and_eq_true] at h
    obtain ⟨h1, h2⟩ := subL_ok (k := k) (bs := bs) h.1
    obtain ⟨h3, h4⟩ := subL_ok (k := k) (bs := bs) h.2
    simp only [subR, SV.den, okB, h1, h2, h3, h4, Bool.and_self, and_self]
theorem subL_ok {bs : List Blk} {k m : Nat} : ∀ {l : List SV}, okL m l = true → denL bs (subL k (bkA bs k) l) = denL bs l ∧ okL m (subL k (bkA bs k) l) = true
  | [], _ => by simp only [subL, okL, and_self]
  | x :: r, h => by
    simp only [okL, Bool.and_eq_true] at h
    obtain ⟨h1, h2⟩ := subR_ok (k := k) (bs := bs) h.1
    obtain ⟨h3, h4⟩ := subL_ok (k := k) (bs := bs) h.2
    simp only [subL, denL, okL, h1, h2, h3, h4, Bool.and_self, and_self]
end
def subX (k : Nat) (b : Blk) : Bx → Bx
  | .cells l => .cells (subL k b l)
  | x => x
/-- A row that lies there. -/
def mfR (e z n : Nat) (l : List Value) (b : Blk) : Mf := ⟨fun w => w.ownsRow 0 e z (.slice b.ad n b.c) n l, fun X => b.a ≠ some X, fun bs w w' hz hk h ho => ⟨owns_same h fun X hX => by
  have hX' := owns_lt h hX
  rw [ownBlock_ad] at hX
  exact hk X hX' fun hin => ho X hin hX, fun X hX e => by
  have := owns_lt h (X := X) (by rw [ownBlock_ad]; exact e)
  omega⟩⟩
def frzS (k : Nat) (b : Blk) (e z n : Nat) (l : List Value) (st : SS) : SS := ⟨st.s.map fun p => (p.1, subR k b p.2), (st.b.map (subX k b)).set k .dead, mfR e z n l b :: st.m⟩
theorem lookup_sub {k : Nat} {b : Blk} : ∀ (s : List (Nat × SV)) (i : Nat) (x : SV), (s.map fun p => (p.1, subR k b p.2)).lookup i = some x → ∃ y, s.lookup i = some y ∧ x = subR k b y
  | [], _, _, h => by simp at h
  | p :: r, i, x, h => by
    rw [List.map_cons, List.lookup_cons] at h
    rw [List.lookup_cons]
    cases e : (i == p.1) with
    | true => simp only [e] at h; exact ⟨p.2, rfl, (Option.some.inj h).symm⟩
    | false => simp only [e] at h; exact lookup_sub r i x h
theorem At.frz {bs : List Blk} {st : SS} {a : Act} {w : World} (A : At C bs st a w) {k e z n : Nat} {l : List Value} (hk : st.b[k]? = some (.row e z n l)) : At C bs (frzS k (bkA bs k) e z n l st) a w ∧ Ce st.b (frzS k (bkA bs k) e z n l st).b ∧ ∀ j X, live bs (frzS k (bkA bs k) e z n l st).b j = some X → j ≠ k ∧ live bs st.b j = some X := by
  have hlm : ∀ j X, live bs (st.b.map (subX k (bkA bs k))) j = some X → live bs st.b j = some X := fun j X hX => by
    unfold live at hX ⊢
    rw [List.getElem?_map] at hX
    obtain ⟨x, h1, h2⟩ := Option.bind_eq_some_iff.1 hX
    obtain ⟨y, h3, rfl⟩ := Option.map_eq_some_iff.1 h1
    rw [h3]
    cases y <;> exact h2
  have hlv : ∀ j X, live bs (frzS k (bkA bs k) e z n l st).b j = some X → j ≠ k ∧ live bs st.b j = some X := fun j X hX => by
    obtain ⟨h1, h2⟩ := live_dead hX
    exact ⟨h1, hlm j X h2⟩
  have hB1 : Bk bs (st.b.map (subX k (bkA bs k))) w := by
    refine ⟨by rw [List.length_map]; exact A.b.l, fun j x hx => ?_, fun x hx => ?_, fun i j X hij hi hj => A.b.nd i j X hij (hlm i X hi) (hlm j X hj)⟩
    · rw [List.getElem?_map] at hx
      obtain ⟨y, h1, rfl⟩ := Option.map_eq_some_iff.1 hx
      have hb := A.b.b j y h1
      have hok := A.b.ok y (List.mem_of_getElem? h1)
      cases y with
      | cells l =>
        obtain ⟨X, x1, x2⟩ := hb.o
        exact ⟨⟨X, x1, by rw [(subL_ok hok).1]; exact x2⟩⟩
      | dead => exact hb
      | row _ _ _ _ => exact hb
    · obtain ⟨y, hy, rfl⟩ := List.mem_map.1 hx
      have hok := A.b.ok y hy
      cases y with
      | cells l => exact (subL_ok hok).2
      | dead => rfl
      | row _ _ _ _ => rfl
  have own : w.ownsRow 0 e z (.slice (bkA bs k).ad n (bkA bs k).c) n l := (A.b.b k _ hk).o
  refine ⟨⟨⟨fun i x hx => ?_, A.f.d, A.f.z⟩, hB1.dead k, fun m hm => ?_, A.t, fun j X hX => A.n j X (hlv j X hX).2, A.y, A.p⟩, fun j us hj => ?_, hlv⟩
  · obtain ⟨y, h1, rfl⟩ := lookup_sub _ _ _ hx
    obtain ⟨g1, g2⟩ := A.f.g i y h1
    obtain ⟨s1, s2⟩ := subR_ok (k := k) (bs := bs) g2
    exact ⟨by rw [s1]; exact g1, s2⟩
  · rcases List.mem_cons.1 hm with rfl | hm
    · have hlive : ∀ X, (bkA bs k).a = some X → live bs st.b k = some X := fun X hX => by unfold live; rw [hk]; exact hX
      exact ⟨own, fun j X hX e' => A.b.nd j k X (hlv j X hX).1 (hlv j X hX).2 (hlive X e'), fun X hX e' => by
        rcases A.n k X (hlive X e') with h | h
        · exact (A.y X hX).2 h
        · have := (A.y X hX).1; omega⟩
    · have h := A.m m hm
      exact ⟨h.l, fun j X hX => h.o j X (hlv j X hX).2, h.z⟩
  · refine ⟨subL k (bkA bs k) us, ?_⟩
    show ((st.b.map (subX k (bkA bs k))).set k .dead)[j]? = _
    rw [List.getElem?_set_ne (fun e' => by
      subst e'
      rw [hk] at hj
      cases hj), List.getElem?_map, hj]
    rfl
/-- A row lies there from now on: it is no box any more. -/
theorem frz {c : Cfg} (k : Nat) {e z n : Nat} {l : List Value} (hm : P.follows .mixedOrders = true) (h : c.st.b[k]? = some (.row e z n l)) (H : ∀ b : Blk, Runs P C Q (go P C.n 9999 ⟨c.hd, c.r, frzS k b e z n l c.st⟩)) : Runs P C Q c := by
  refine ⟨?_⟩
  intro bs a w A
  obtain ⟨A', hce, hlv⟩ := A.frz h
  have h' := (go_ok hm _ (H (bkA bs k))).o bs a w A'
  have hF' : ∀ m, Lies C.Z bs c.st.b w m → Lies C.Z bs (frzS k (bkA bs k) e z n l c.st).b w m := fun m hm => ⟨hm.l, fun j X hX => hm.o j X (hlv j X hX).2, hm.z⟩
  split
  next hk => simp only [hk] at h'; exact h'
  next hk => simp only [hk] at h'; exact h'
  next hk =>
    simp only [hk] at h'
    intro bs0 hp hl hlF hMF hB hF hcF hcM
    exact h' bs0 hp hl hlF hMF hB (fun m hm => hF' m (hF m hm)) (hcF.trans hce) hcM
  next i hk =>
    simp only [hk] at h'
    intro bs0 hp hl hlF hMF hB hF hcF hcM
    exact h' bs0 hp hl hlF hMF hB (fun m hm => hF' m (hF m hm)) (hcF.trans hce) hcM
/-- A row told anew. -/
theorem reR {c : Cfg} (k : Nat) {e z n : Nat} {l : List Value} (l' : List Value) (hm : P.follows .mixedOrders = true) (h : c.st.b[k]? = some (.row e z n l)) (hl : l = l') (H : Runs P C Q (go P C.n 9999 ⟨c.hd, c.r, ⟨c.st.s, c.st.b.set k (.row e z n l'), c.st.m⟩⟩)) : Runs P C Q c := by
  subst hl
  have e1 : c.st.b.set k (.row e z n l) = c.st.b := by
    obtain ⟨ho, hv⟩ := List.getElem?_eq_some_iff.1 h
    rw [← hv]
    exact List.set_getElem_self ho
  rw [e1] at H
  exact go_ok hm _ H
end
end Ev
end Go.Proofs.Ytkjpbjgepnbibaa
