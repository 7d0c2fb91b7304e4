/- The second engine: contracts. -/
import Derived.Test.YtkjpbjgepnbibaaEvF
namespace Go.Proofs.Ytkjpbjgepnbibaa
namespace Ev
open Go.RowKit
set_option maxRecDepth 100000

/-- A contract: of what a function is called (args), with which boxes (the first p keep their places), of what must lie in memory (pre); what it answers (res), its boxes then (out), what lies in memory then (post: off whatever 'pre' was off). -/
structure Sg (X Y : Type) where
  f : FuncId
  p : Nat
  args : X → List SV
  boxes : X → List Bx
  pre : X → List Mf
  ok : X → Prop
  res : X → Y → SV
  out : X → Y → List Bx
  post : X → Y → List Mf
  yes : X → Y → Prop
/-- What holds behind the call. -/
structure Done {X Y : Type} (S : Sg X Y) (x : X) (bs : List Blk) (w : World) (e : Ending) (w' : World) (y : Y) (bs' : List Blk) : Prop where
  q : S.yes x y
  e : e = .returned ((S.res x y).den bs')
  r : okB bs'.length (S.res x y) = true
  b : Bk bs' (S.out x y) w'
  p : bs'.take S.p = bs.take S.p
  l : S.p ≤ bs'.length
  m : ∀ m ∈ S.post x y, m.L w' ∧ (∀ k X, live bs' (S.out x y) k = some X → m.O X) ∧ ∀ X, X < w.heap.size → X ∉ lvs bs (S.boxes x) → (∀ m ∈ S.pre x, m.O X) → m.O X
  t : Tch (lvs bs (S.boxes x)) w w'
  v : ∀ k X, live bs' (S.out x y) k = some X → X ∈ lvs bs (S.boxes x) ∨ w.heap.size ≤ X
structure Spec (P : Program) {X Y : Type} (S : Sg X Y) : Prop where
  o : ∀ x, S.ok x → ∀ bs w, Bk bs (S.boxes x) w → okL bs.length (S.args x) = true → (∀ m ∈ S.pre x, m.L w ∧ ∀ k X, live bs (S.boxes x) k = some X → m.O X) → Calls P S.f (denL bs (S.args x)).toArray w fun e w' => ∃ y bs', Done S x bs w e w' y bs'

section
variable {P : Program} {C : Cx} {Q : Exit → Act → World → Prop} {X Y : Type} {S : Sg X Y}
def Cs (S : Sg X Y) (n : Nat) (x : X) (bs : List Blk) (w : World) : Cx := ⟨n, lvs bs (S.boxes x), w, fun Z => Z < w.heap.size ∧ Z ∉ lvs bs (S.boxes x) ∧ ∀ m ∈ S.pre x, m.O Z, bs.take S.p⟩
def Rs (S : Sg X Y) (x : X) (bs : List Blk) (w : World) (e : Ending) (w' : World) : Prop := ∃ y bs', Done S x bs w e w' y bs'
/-- A contract is shown. -/
theorem spec {fn : Func} (n : Nat) (hm : P.follows .mixedOrders = true) (hf : P.funcs[S.f]? = some fn) (hb : (fn.body.isSome, fn.ntmps, fun x => (Nat.ble (S.args x).length n, Nat.ble S.p (S.boxes x).length)) = (true, n, fun _ => (true, true)))
    (H : ∀ x, S.ok x → ∀ bs w, S.p ≤ bs.length → Runs P (Cs S n x bs w) (bodyPost P fn (Rs S x bs w)) (go P n 9999 ⟨h0, [co (bodyOf fn)], ⟨argS 0 (S.args x), S.boxes x, S.pre x⟩⟩)) : Spec P S := by
  refine ⟨fun x hx bs w hB hok hms => ?_⟩
  simp only [Prod.mk.injEq] at hb
  obtain ⟨b1, b2, b3⟩ := hb
  have b4 := congrFun b3 x
  simp only [Prod.mk.injEq] at b4
  have h := go_ok (C := Cs S n x bs w) hm 9999 (H x hx bs w (by rw [hB.l]; exact Nat.le_of_ble_eq_true b4.2))
  refine begin0 (C := Cs S n x bs w) (S.args x) (S.boxes x) (S.pre x) bs hf b1 b2 b4.1 (fun a hF => ?_) hok h
  refine ⟨hF, hB, fun m hmm => ⟨(hms m hmm).1, (hms m hmm).2, fun Z hZ => hZ.2.2 m hmm⟩, Tch.refl _ _, fun k X hX => .inl (mem_lvs.2 ⟨k, hX⟩), fun Z hZ => ⟨hZ.1, hZ.2.1⟩, bs.drop S.p, (List.take_append_drop _ _).symm⟩
/-- The end: where the boxes stand now (ks), where the facts (fs). -/
theorem ret0 {fn : Func} {c : Cfg} {n : Nat} {x : X} {bs0 : List Blk} {w0 : World} (y : Y) (ks fs : List Nat) {vs : List SV} (h : isRet c = true) (hv : resL P c.st fn.results.toList = some vs)
    (hr : norm (oneS vs) = norm (ren (kA ks) (S.res x y))) (hk : okB ks.length (S.res x y) = true) (hb : Sel [] c.st.b ks (S.out x y)) (hp : ks.take S.p = List.range S.p) (hl : S.p ≤ bs0.length) (hm : (fs.map fun k => c.st.m[k]?) = (S.post x y).map some) (hy : S.yes x y) : Runs P (Cs S n x bs0 w0) (bodyPost P fn (Rs S x bs0 w0)) c := by
  refine retG h hv fun bs a w A ok => ?_
  have hsel : Sel bs c.st.b ks (S.out x y) := ⟨hb.e, hb.d, hb.k⟩
  have hle : S.p ≤ ks.length := by
    have := congrArg List.length hp
    rw [List.length_take, List.length_range] at this
    omega
  refine ⟨y, ks.map fun k => bkA bs k, hy, ?_, ?_, hsel.bk A.b, ?_, ?_, fun m hmm => ?_, A.t, fun k X hX => A.n _ X (hsel.live hX)⟩
  · rw [← norm_den, hr, norm_den]
    congr 1
    exact ren_den (bs := ks.map fun k => bkA bs k) (fun j hj => (kA_bk (by simpa using hj)).symm) (by rw [List.length_map]; exact hk)
  · rw [List.length_map]; exact hk
  · obtain ⟨nb, hnb⟩ := A.p
    have e : (Cs S n x bs0 w0).b0 = bs0.take S.p := rfl
    have hpre : bs.take S.p = bs0.take S.p := by
      rw [hnb, e, List.take_append_of_le_length (by rw [List.length_take]; omega), List.take_take, Nat.min_self]
    have hbl : S.p ≤ bs.length := by
      rw [hnb, List.length_append, e, List.length_take]
      omega
    rw [← List.map_take, hp, ← hpre]
    apply List.ext_getElem?
    intro i
    rw [List.getElem?_map]
    rcases Nat.lt_or_ge i S.p with hi | hi
    · rw [List.getElem?_range hi, Option.map_some, List.getElem?_take_of_lt hi]
      unfold bkA
      rw [List.getD_eq_getElem?_getD, List.getElem?_eq_getElem (by omega), Option.getD_some]
    · rw [List.getElem?_eq_none (by simpa using hi), List.getElem?_eq_none (by rw [List.length_take]; omega)]
      rfl
  · rw [List.length_map]; exact hle
  · have hh := A.m m (facts_at hm m hmm)
    exact ⟨hh.l, fun k X hX => hh.o _ X (hsel.live hX), fun X hX hS hpr => hh.z X ⟨hX, hS, hpr⟩⟩
theorem ret {fn : Func} {c : Cfg} {n : Nat} {x : X} {bs0 : List Blk} {w0 : World} (y : Y) (ks fs : List Nat)
    (h : (isRet c, (resL P c.st fn.results.toList).map fun l => norm (oneS l), okB ks.length (S.res x y), ks.map (fun k => c.st.b[k]?.map normX), nodupN ks, (S.out x y).all (okX ks.length), ks.take S.p, fs.map fun k => c.st.m[k]?) = (true, some (norm (ren (kA ks) (S.res x y))), true, (S.out x y).map (fun z => some (normX (renX (kA ks) z))), true, true, List.range S.p, (S.post x y).map some))
    (hl : S.p ≤ bs0.length) (hy : S.yes x y) : Runs P (Cs S n x bs0 w0) (bodyPost P fn (Rs S x bs0 w0)) c := by
  simp only [Prod.mk.injEq] at h
  obtain ⟨h1, h2, h3, h4, h5, h6, h7, h8⟩ := h
  obtain ⟨vs, h9, h10⟩ := Option.map_eq_some_iff.1 h2
  exact ret0 y ks fs h1 h9 h10 h3 ⟨h4, h5, h6⟩ h7 hl h8 hy
/-- The end, where what comes out is told otherwise. -/
theorem retE {fn : Func} {c : Cfg} {n : Nat} {x : X} {bs0 : List Blk} {w0 : World} (y : Y) (ks fs : List Nat) {o' : List Bx} {r' : SV} {p' : List Mf} (he : S.out x y = o' ∧ S.res x y = r' ∧ S.post x y = p')
    (h : (isRet c, (resL P c.st fn.results.toList).map fun l => norm (oneS l), okB ks.length r', ks.map (fun k => c.st.b[k]?.map normX), nodupN ks, o'.all (okX ks.length), ks.take S.p, fs.map fun k => c.st.m[k]?) = (true, some (norm (ren (kA ks) r')), true, o'.map (fun z => some (normX (renX (kA ks) z))), true, true, List.range S.p, p'.map some))
    (hl : S.p ≤ bs0.length) (hy : S.yes x y) : Runs P (Cs S n x bs0 w0) (bodyPost P fn (Rs S x bs0 w0)) c := by
  obtain ⟨rfl, rfl, rfl⟩ := he
  exact ret y ks fs h hl hy
/-- Where a callee's box stands behind the call. -/
def tau (p m : Nat) (ks : List Nat) (j : Nat) : Nat := bif Nat.blt j p then kA ks j else m + (j - p)
/-- The caller's boxes behind the call: those that keep their places, those that are of no account any more, new ones. -/
def putB (p m : Nat) (ks : List Nat) (out : List Bx) : List Nat → Nat → List Bx → List Bx
  | [], _, B => B
  | k :: r, j, B => putB p m ks out r (j + 1) (B.set k (bif Nat.blt j p then renX (tau p m ks) (out.getD j .dead) else .dead))
def aftB (p : Nat) (ks : List Nat) (out B : List Bx) : List Bx := putB p B.length ks out ks 0 B ++ (out.drop p).map (renX (tau p B.length ks))
theorem putB_len {p m : Nat} {ks : List Nat} {out : List Bx} : ∀ (l : List Nat) (j : Nat) (B : List Bx), (putB p m ks out l j B).length = B.length
  | [], _, _ => rfl
  | k :: r, j, B => by rw [putB, putB_len r, List.length_set]
/-- What stands at a place behind 'putB'. -/
theorem putB_at {p m : Nat} {ks : List Nat} {out : List Bx} : ∀ (l : List Nat) (j : Nat) (B : List Bx) (k : Nat), nodupN l = true →
    ((∀ i, i < l.length → kA l i ≠ k) → (putB p m ks out l j B)[k]? = B[k]?) ∧ (∀ i, i < l.length → kA l i = k → k < B.length → (putB p m ks out l j B)[k]? = some (bif Nat.blt (j + i) p then renX (tau p m ks) (out.getD (j + i) .dead) else .dead))
  | [], j, B, k, _ => ⟨fun _ => rfl, fun i hi => by simp at hi⟩
  | x :: r, j, B, k, h => by
    have hnd := nodupN_at h
    unfold nodupN at h
    obtain ⟨_, h2⟩ := Bool.and_eq_true_iff.1 h
    obtain ⟨r1, r2⟩ := putB_at (p := p) (m := m) (ks := ks) (out := out) r (j + 1) (B.set x (bif Nat.blt j p then renX (tau p m ks) (out.getD j .dead) else .dead)) k h2
    have kS : ∀ i, kA (x :: r) (i + 1) = kA r i := fun i => by simp [kA]
    have k0 : kA (x :: r) 0 = x := by simp [kA]
    refine ⟨fun hne => ?_, fun i hi he hkB => ?_⟩
    · rw [putB, r1 fun i hi => by rw [← kS]; exact hne (i + 1) (by simpa using hi)]
      rw [List.getElem?_set_ne (fun e => hne 0 (by simp) (by rw [k0]; exact e))]
    · cases i with
      | zero =>
        rw [k0] at he
        subst he
        rw [putB, r1 fun i hi e => by
          have := hnd 0 (i + 1) (by simp) (by simpa using hi) (by omega)
          rw [k0, kS] at this
          exact this e.symm]
        rw [List.getElem?_set_self hkB]
        rfl
      | succ i =>
        rw [kS] at he
        rw [putB, r2 i (by simpa using hi) he (by rw [List.length_set]; exact hkB)]
        rw [show j + 1 + i = j + (i + 1) by omega]
def isC : Bx → Bool
  | .cells _ => true
  | _ => false
theorem tau_lt {p m j : Nat} {ks : List Nat} (h : j < p) : tau p m ks j = kA ks j := by
  unfold tau
  rw [show Nat.blt j p = true from Nat.ble_eq_true_of_le h]
  rfl
theorem tau_ge {p m j : Nat} {ks : List Nat} (h : p ≤ j) : tau p m ks j = m + (j - p) := by
  unfold tau
  have : Nat.blt j p = false := by
    cases e : Nat.blt j p with
    | false => rfl
    | true => have : j < p := Nat.le_of_ble_eq_true e; omega
  rw [this]
  rfl
/-- All about boxes behind a call. -/
structure Aft (p : Nat) (ks : List Nat) (bs bs' : List Blk) (B out : List Bx) : Prop where
  k : ∀ j, j < ks.length → kA ks j < B.length
  d : nodupN ks = true
  l : bs.length = B.length
  o : bs'.length = out.length
  t : bs'.take p = (ks.map fun k => bkA bs k).take p
  pl : p ≤ bs'.length
  pk : p ≤ ks.length
section
variable {p : Nat} {ks : List Nat} {bs bs' : List Blk} {B out : List Bx}
theorem Aft.bk (h : Aft p ks bs bs' B out) {j : Nat} (_hj : j < bs'.length) : bkA (bs ++ bs'.drop p) (tau p B.length ks j) = bkA bs' j := by
  rcases Nat.lt_or_ge j p with hp | hp
  · have hk : j < ks.length := Nat.lt_of_lt_of_le hp h.pk
    rw [tau_lt hp, bkA_app (by rw [h.l]; exact h.k j hk), ← kA_bk hk]
    have := congrArg (fun l => l[j]?) h.t
    simp only [List.getElem?_take_of_lt hp] at this
    unfold bkA at this ⊢
    rw [List.getD_eq_getElem?_getD, List.getD_eq_getElem?_getD, this]
  · rw [tau_ge hp, ← h.l]
    unfold bkA
    rw [List.getD_eq_getElem?_getD, List.getElem?_append_right (by omega), List.getD_eq_getElem?_getD, List.getElem?_drop]
    congr 2
    omega
theorem Aft.lt (h : Aft p ks bs bs' B out) {j : Nat} (hj : j < bs'.length) : tau p B.length ks j < (bs ++ bs'.drop p).length := by
  rw [List.length_append, List.length_drop]
  rcases Nat.lt_or_ge j p with hp | hp
  · rw [tau_lt hp]
    have := h.k j (Nat.lt_of_lt_of_le hp h.pk)
    have := h.l
    omega
  · rw [tau_ge hp]
    have := h.l
    omega
theorem Aft.len (h : Aft p ks bs bs' B out) : (bs ++ bs'.drop p).length = (aftB p ks out B).length := by
  unfold aftB
  rw [List.length_append, List.length_append, putB_len, List.length_map, List.length_drop, List.length_drop, h.l, h.o]
/-- What stands where. -/
theorem Aft.at (h : Aft p ks bs bs' B out) {k : Nat} {x : Bx} (hx : (aftB p ks out B)[k]? = some x) :
    (k < B.length ∧ (∀ i, i < ks.length → kA ks i ≠ k) ∧ B[k]? = some x) ∨ x = .dead ∨ ∃ j z, j < out.length ∧ tau p B.length ks j = k ∧ out[j]? = some z ∧ x = renX (tau p B.length ks) z := by
  unfold aftB at hx
  rcases Nat.lt_or_ge k B.length with hk | hk
  · rw [List.getElem?_append_left (by rw [putB_len]; exact hk)] at hx
    obtain ⟨a1, a2⟩ := putB_at (p := p) (m := B.length) (ks := ks) (out := out) ks 0 B k h.d
    by_cases hin : ∃ i, i < ks.length ∧ kA ks i = k
    · obtain ⟨i, hi, he⟩ := hin
      rw [a2 i hi he hk, Nat.zero_add] at hx
      cases hb : Nat.blt i p with
      | false =>
        rw [hb] at hx
        cases hx
        exact .inr (.inl rfl)
      | true =>
        rw [hb] at hx
        simp only [cond_true, Option.some.injEq] at hx
        have hip : i < p := Nat.le_of_ble_eq_true hb
        have hio : i < out.length := by rw [← h.o]; exact Nat.lt_of_lt_of_le hip h.pl
        refine .inr (.inr ⟨i, out[i], hio, by rw [tau_lt hip]; exact he, List.getElem?_eq_getElem hio, ?_⟩)
        rw [← hx, List.getD_eq_getElem?_getD, List.getElem?_eq_getElem hio]
        rfl
    · have hne : ∀ i, i < ks.length → kA ks i ≠ k := fun i hi e => hin ⟨i, hi, e⟩
      rw [a1 hne] at hx
      exact .inl ⟨hk, hne, hx⟩
  · rw [List.getElem?_append_right (by rw [putB_len]; exact hk), putB_len, List.getElem?_map, List.getElem?_drop] at hx
    obtain ⟨z, h1, h2⟩ := Option.map_eq_some_iff.1 hx
    exact .inr (.inr ⟨p + (k - B.length), z, (List.getElem?_eq_some_iff.1 h1).1, by rw [tau_ge (Nat.le_add_right _ _)]; omega, h1, h2.symm⟩)
theorem Aft.live (h : Aft p ks bs bs' B out) {k X : Nat} (hX : live (bs ++ bs'.drop p) (aftB p ks out B) k = some X) :
    (k < B.length ∧ (∀ i, i < ks.length → kA ks i ≠ k) ∧ live bs B k = some X) ∨ ∃ j, tau p B.length ks j = k ∧ live bs' out j = some X := by
  unfold Ev.live at hX
  obtain ⟨x, h1, h2⟩ := Option.bind_eq_some_iff.1 hX
  rcases h.at h1 with ⟨a1, a2, a3⟩ | rfl | ⟨j, z, b1, b2, b3, rfl⟩
  · rw [bkA_app (by rw [h.l]; exact a1)] at h2
    exact .inl ⟨a1, a2, by unfold Ev.live; rw [a3]; exact h2⟩
  · cases h2
  · refine .inr ⟨j, b2, ?_⟩
    rw [renX_bl, ← b2, h.bk (by rw [h.o]; exact b1)] at h2
    unfold Ev.live
    rw [b3]
    exact h2
end
/-- A call by a contract. -/
theorem callC0 (k : Nat) {c : Cfg} (sp : Spec P S) (x : X) (ks fs : List Nat) (hm : P.follows .mixedOrders = true) (h : ((calC P C.n c).map fun q => (q.1, q.2.map norm)) = some (S.f, (renL (kA ks) (S.args x)).map norm)) (ha : okL ks.length (S.args x) = true) (hb : Sel [] c.st.b ks (S.boxes x)) (hf : (fs.map fun k => c.st.m[k]?) = (S.pre x).map some)
    (hM : (ks.all fun k => !((mNx c)[k]?.map isC).getD false) = true) (hC : ∀ y, (((S.out x y).take S.p).all isC && ((S.boxes x).drop S.p).all fun z => !isC z) = true) (hok : S.ok x)
    (H : ∀ y, S.yes x y → Runs P C Q (go P C.n k (aft c (ren (tau S.p c.st.b.length ks) (S.res x y)) (aftB S.p ks (S.out x y) c.st.b) (S.post x y ++ c.st.m)))) : Runs P C Q c :=
  by
    obtain ⟨⟨f', vs⟩, hcal, hcq⟩ := Option.map_eq_some_iff.1 h
    simp only [Prod.mk.injEq] at hcq
    obtain ⟨rfl, hvs⟩ := hcq
    refine callGk k S.f vs hm hcal fun bs a w A _ => ?_
    have hsel : Sel bs c.st.b ks (S.boxes x) := ⟨hb.e, hb.d, hb.k⟩
    have hkl := hsel.len
    have hbs0 : (ks.map fun k => bkA bs k).length = ks.length := List.length_map ..
    have hpre : ∀ m ∈ S.pre x, Lies C.Z bs c.st.b w m := fun m hm => A.m m (facts_at hf m hm)
    have hargs : denL bs vs = denL (ks.map fun k => bkA bs k) (S.args x) := (show denL bs vs = denL bs (renL (kA ks) (S.args x)) by rw [← normL_den, hvs, normL_den]).trans <| renL_den (fun j hj => (kA_bk (by simpa using hj)).symm) (by rw [hbs0]; exact ha)
    rw [hargs]
    have hklt : ∀ j, j < ks.length → kA ks j < c.st.b.length := fun j hj => by
      have hjb : j < (S.boxes x).length := by rw [← hkl]; exact hj
      obtain ⟨b, h3, _⟩ := hsel.at (List.getElem?_eq_getElem hjb)
      exact (List.getElem?_eq_some_iff.1 h3).1
    refine (sp.o x hok _ w (hsel.bk A.b) (by rw [hbs0]; exact ha) fun m hm => ⟨(hpre m hm).l, fun k X hX => (hpre m hm).o _ X (hsel.live hX)⟩).mono ?_
    rintro e w' ⟨y, bs', D⟩
    have hS0 : ∀ X, X ∈ lvs (ks.map fun k => bkA bs k) (S.boxes x) → ∃ i, i < ks.length ∧ live bs c.st.b (kA ks i) = some X := fun X hX => by
      obtain ⟨i, hi⟩ := mem_lvs.1 hX
      exact ⟨i, by rw [hkl]; exact live_lt hi, hsel.live hi⟩
    have F : Aft S.p ks bs bs' c.st.b (S.out x y) := ⟨hklt, hb.d, A.b.l, D.b.l, D.p, D.l, by
      have := congrArg List.length D.p
      rw [List.length_take, List.length_take, hbs0] at this
      have := D.l
      omega⟩
    have hoff : ∀ k X, (∀ i, i < ks.length → kA ks i ≠ k) → live bs c.st.b k = some X → X ∉ lvs (ks.map fun k => bkA bs k) (S.boxes x) := fun k X hk hX hin => by
      obtain ⟨i, hi, hl⟩ := hS0 X hin
      exact A.b.nd _ _ X (hk i hi) hl hX
    have hsame : ∀ k X, (∀ i, i < ks.length → kA ks i ≠ k) → live bs c.st.b k = some X → w'.heap[X]? = w.heap[X]? := fun k X hk hX => D.t.k X (A.b.lt hX) (hoff k X hk hX)
    have hout : ∀ j X, live bs' (S.out x y) j = some X → (∃ i, i < ks.length ∧ live bs c.st.b (kA ks i) = some X) ∨ w.heap.size ≤ X := fun j X hX => by
      rcases D.v j X hX with h | h
      · exact .inl (hS0 X h)
      · exact .inr h
    obtain ⟨c1, c2⟩ := Bool.and_eq_true_iff.1 (hC y)
    have hBk : Bk (bs ++ bs'.drop S.p) (aftB S.p ks (S.out x y) c.st.b) w' := by
      refine ⟨F.len, fun k z hz => ?_, fun z hz => ?_, fun i j X hij hi hj => ?_⟩
      · rcases F.at hz with ⟨a1, a2, a3⟩ | rfl | ⟨j, z', b1, b2, b3, rfl⟩
        · rw [bkA_app (by rw [A.b.l]; exact a1)]
          exact ((A.b.b k z a3).same D.t.bl.size fun X hX => hsame k X a2 (by unfold live; rw [a3]; exact hX)).app (A.b.ok z (List.mem_of_getElem? a3))
        · exact ⟨trivial⟩
        · rw [← b2, F.bk (by rw [F.o]; exact b1)]
          exact (renX_at (fun j hj => F.bk hj) (D.b.ok z' (List.mem_of_getElem? b3))).2 (D.b.b j z' b3)
      · obtain ⟨k, hk, he⟩ := List.mem_iff_getElem.1 hz
        rcases F.at (k := k) (x := z) (by rw [← he]; exact List.getElem?_eq_getElem hk) with ⟨a1, a2, a3⟩ | rfl | ⟨j, z', b1, b2, b3, rfl⟩
        · exact okX_mono (by rw [List.length_append]; omega) (A.b.ok z (List.mem_of_getElem? a3))
        · rfl
        · exact renX_ok (fun j hj => F.lt hj) (D.b.ok z' (List.mem_of_getElem? b3))
      · rcases F.live hi with ⟨a1, a2, a3⟩ | ⟨j1, b1, b2⟩ <;> rcases F.live hj with ⟨d1, d2, d3⟩ | ⟨j2, e1, e2⟩
        · exact A.b.nd i j X hij a3 d3
        · rcases hout j2 X e2 with ⟨i', hi', hl⟩ | hX
          · exact A.b.nd _ _ X (a2 i' hi') hl a3
          · have := A.b.lt a3; omega
        · rcases hout j1 X b2 with ⟨i', hi', hl⟩ | hX
          · exact A.b.nd _ _ X (d2 i' hi') hl d3
          · have := A.b.lt d3; omega
        · exact D.b.nd j1 j2 X (fun e => hij (by rw [← b1, ← e1, e])) b2 e2
    have hnl : ∀ k X, live (bs ++ bs'.drop S.p) (aftB S.p ks (S.out x y) c.st.b) k = some X → (∃ j, live bs c.st.b j = some X) ∨ w.heap.size ≤ X := fun k X hX => by
      rcases F.live hX with ⟨_, _, a3⟩ | ⟨j1, _, b2⟩
      · exact .inl ⟨k, a3⟩
      · rcases hout j1 X b2 with ⟨i, _, hl⟩ | h
        · exact .inl ⟨_, hl⟩
        · exact .inr h
    refine ⟨bs ++ bs'.drop S.p, ren (tau S.p c.st.b.length ks) (S.res x y), aftB S.p ks (S.out x y) c.st.b, S.post x y, ?_, ren_ok (fun j hj => F.lt hj) D.r, hBk, ⟨D.t.bl, fun k hk hS => D.t.k k hk fun hin => ?_, bs'.drop S.p, rfl⟩, ⟨?_, ?_, hnl⟩, fun m hm => ?_, H y D.q⟩
    · rw [D.e]
      congr 1
      exact (ren_den (fun j hj => F.bk hj) D.r).symm
    · obtain ⟨i, _, hl⟩ := hS0 k hin
      exact hS (mem_lvs.2 ⟨_, hl⟩)
    · intro bs00 hp hc hB k us hk
      obtain ⟨X, x1, x2, x3⟩ := hB k us hk
      have hkin : ∀ i, i < ks.length → kA ks i ≠ k := fun i hi e => by
        have := List.all_eq_true.1 hM (kA ks i) (by unfold kA; rw [List.getD_eq_getElem?_getD, List.getElem?_eq_getElem hi]; exact List.getElem_mem hi)
        rw [e, hk] at this
        cases this
      obtain ⟨nb, rfl⟩ := hp
      have hk0 : k < bs00.length := by
        rcases Nat.lt_or_ge k bs00.length with h' | h'
        · exact h'
        · unfold bkA at x1
          rw [List.getD_eq_getElem?_getD, List.getElem?_eq_none h'] at x1
          cases x1
      obtain ⟨us', hus'⟩ := hc k us hk
      have hl : live (bs00 ++ nb) c.st.b k = some X := by
        unfold live
        rw [hus', bkA_app hk0]
        exact x1
      exact ⟨X, x1, x2.same (hsame k X hkin hl) D.t.bl.size, x3⟩
    · intro k us hk
      unfold aftB
      rw [List.getElem?_append_left (by rw [putB_len]; exact (List.getElem?_eq_some_iff.1 hk).1)]
      obtain ⟨a1, a2⟩ := putB_at (p := S.p) (m := c.st.b.length) (ks := ks) (out := S.out x y) ks 0 c.st.b k hb.d
      by_cases hin : ∃ i, i < ks.length ∧ kA ks i = k
      · obtain ⟨i, hi, he⟩ := hin
        rw [a2 i hi he (List.getElem?_eq_some_iff.1 hk).1, Nat.zero_add]
        have hib : i < (S.boxes x).length := by rw [← hkl]; exact hi
        obtain ⟨bb, hb1, hb2⟩ := hsel.at (List.getElem?_eq_getElem hib)
        rw [he, hk] at hb1
        cases hb1
        rcases Nat.lt_or_ge i S.p with hip | hip
        · rw [show Nat.blt i S.p = true from Nat.ble_eq_true_of_le hip]
          have hio : i < (S.out x y).length := by rw [← F.o]; exact Nat.lt_of_lt_of_le hip F.pl
          have hic : isC (S.out x y)[i] = true := List.all_eq_true.1 c1 _ (by
            have : ((S.out x y).take S.p)[i]? = some (S.out x y)[i] := by rw [List.getElem?_take_of_lt hip]; exact List.getElem?_eq_getElem hio
            exact List.mem_of_getElem? this)
          rw [List.getD_eq_getElem?_getD, List.getElem?_eq_getElem hio]
          simp only [Option.getD_some, cond_true]
          cases e : (S.out x y)[i] with
          | cells l => exact ⟨_, rfl⟩
          | dead => rw [e] at hic; cases hic
          | row _ _ _ _ => rw [e] at hic; cases hic
        · exfalso
          have hic := List.all_eq_true.1 c2 (S.boxes x)[i] (by
            have : ((S.boxes x).drop S.p)[i - S.p]? = some (S.boxes x)[i] := by rw [List.getElem?_drop, show S.p + (i - S.p) = i by omega]; exact List.getElem?_eq_getElem hib
            exact List.mem_of_getElem? this)
          cases e : (S.boxes x)[i] with
          | cells l => rw [e] at hic; cases hic
          | dead => rw [e] at hb2; cases hb2
          | row _ _ _ _ => rw [e] at hb2; cases hb2
      · rw [a1 fun i hi e => hin ⟨i, hi, e⟩]
        exact ⟨us, hk⟩
    · obtain ⟨m1, m2, m3⟩ := D.m m hm
      refine ⟨m1, fun k X hX => ?_, fun X hX => m3 X (Nat.lt_of_lt_of_le (A.y X hX).1 A.t.bl.size) (fun hin => ?_) fun m' hm' => (hpre m' hm').z X hX⟩
      · rcases F.live hX with ⟨a1, a2, a3⟩ | ⟨j, _, b2⟩
        · exact m3 X (A.b.lt a3) (hoff k X a2 a3) fun m' hm' => (hpre m' hm').o k X a3
        · exact m2 j X b2
      · obtain ⟨i, _, hl⟩ := hS0 X hin
        rcases A.n _ X hl with h | h
        · exact (A.y X hX).2 h
        · have := (A.y X hX).1; omega
/-- What is asked ahead of a call by a contract, and what it must be. -/
def ckL (P : Program) (n : Nat) (S : Sg X Y) (x : X) (ks fs : List Nat) (c : Cfg) := ((((calC P n c).map fun q => (q.1, q.2.map norm)), okL ks.length (S.args x), ks.map (fun k => c.st.b[k]?.map normX), nodupN ks, (S.boxes x).all (okX ks.length), (fs.map fun k => c.st.m[k]?), (ks.all fun k => !((mNx c)[k]?.map isC).getD false), fun y => (((S.out x y).take S.p).all isC && ((S.boxes x).drop S.p).all fun z => !isC z)) : Option (FuncId × List SV) × Bool × List (Option Bx) × Bool × Bool × List (Option Mf) × Bool × (Y → Bool))
def ckR (S : Sg X Y) (x : X) (ks : List Nat) := ((some (S.f, (renL (kA ks) (S.args x)).map norm), true, (S.boxes x).map (fun z => some (normX (renX (kA ks) z))), true, true, (S.pre x).map some, true, fun _ => true) : Option (FuncId × List SV) × Bool × List (Option Bx) × Bool × Bool × List (Option Mf) × Bool × (Y → Bool))
def aftC (S : Sg X Y) (x : X) (ks : List Nat) (c : Cfg) (y : Y) : Cfg := aft c (ren (tau S.p c.st.b.length ks) (S.res x y)) (aftB S.p ks (S.out x y) c.st.b) (S.post x y ++ c.st.m)
theorem callCk (k : Nat) {c : Cfg} (sp : Spec P S) (x : X) (ks fs : List Nat) (hm : P.follows .mixedOrders = true) (h : ckL P C.n S x ks fs c = ckR S x ks) (hok : S.ok x) (H : ∀ y, S.yes x y → Runs P C Q (go P C.n k (aftC S x ks c y))) : Runs P C Q c := by
  unfold ckL ckR at h
  simp only [Prod.mk.injEq] at h
  obtain ⟨h1, h2, h3, h4, h5, h6, h7, h8⟩ := h
  exact callC0 k sp x ks fs hm h1 h2 ⟨h3, h4, h5⟩ (by rw [h6]) h7 (fun y => congrFun h8 y) hok H
theorem callC {c : Cfg} (sp : Spec P S) (x : X) (ks fs : List Nat) (hm : P.follows .mixedOrders = true) (h : ckL P C.n S x ks fs c = ckR S x ks) (hok : S.ok x) (H : ∀ y, S.yes x y → Runs P C Q (go P C.n 9999 (aftC S x ks c y))) : Runs P C Q c := callCk 9999 sp x ks fs hm h hok H
end
/-- A contract of plain values, no boxes. -/
structure Kg (X Y : Type) where
  f : FuncId
  args : X → List Value
  pre : X → List Mf
  ok : X → Prop
  res : X → Y → Value
  post : X → Y → List Mf
  yes : X → Y → Prop
def Kg.sg {X Y : Type} (K : Kg X Y) : Sg X Y := ⟨K.f, 0, fun x => (K.args x).map .val, fun _ => [], K.pre, K.ok, fun x y => .val (K.res x y), fun _ _ => [], K.post, K.yes⟩
theorem kspec {P : Program} {X Y : Type} (K : Kg X Y) (H : ∀ x, K.ok x → ∀ w, (∀ m ∈ K.pre x, m.L w) → Calls P K.f (K.args x).toArray w fun e w' => ∃ y, K.yes x y ∧ e = .returned (K.res x y) ∧ (∀ m ∈ K.post x y, m.L w' ∧ ∀ X, X < w.heap.size → (∀ m ∈ K.pre x, m.O X) → m.O X) ∧ Below w.heap.size w w') : Spec P K.sg := by
  refine ⟨fun x hx bs w hB _ hm => ?_⟩
  have e : denL bs (K.sg.args x) = K.args x := denL_v bs _
  rw [e]
  refine (H x hx w fun m h => (hm m h).1).mono ?_
  rintro e w' ⟨y, h1, h2, h3, h4⟩
  have hl : ∀ k X, live bs ([] : List Bx) k = some X → False := fun k X h => by have := live_lt h; simp at this
  exact ⟨y, bs, h1, by rw [h2]; simp only [Kg.sg, SV.den], by simp only [Kg.sg, okB], hB.below h4, rfl, Nat.zero_le _, fun m hm => ⟨(h3 m hm).1, fun k X hX => (hl k X hX).elim, fun X hX _ => (h3 m hm).2 X hX⟩, Tch.below h4, fun k X hX => (hl k X hX).elim⟩
end Ev
end Go.Proofs.Ytkjpbjgepnbibaa
