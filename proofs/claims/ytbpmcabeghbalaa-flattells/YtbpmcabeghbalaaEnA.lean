/- The engine: a frame's slots, boxes and what lies in memory, told by data. -/
import Derived.Test.YtbpmcabeghbalaaMsgA
import Derived.Deep.RegionHeld3
import Derived.Deep.MidRow
import Derived.OrdersHeld
namespace Go.Proofs.Ytbpmcabeghbalaa
namespace En
open Go.RowKit
set_option maxRecDepth 100000

/-- A slot's value: a value (t = 0), or a place in a box (t = 1); q: known to be true (1), false (2), of an operation that was not wanted (3). -/
structure SV where
  t : Nat
  k : Nat
  o : Nat
  v : Value
  q : Nat
def vv (v : Value) : SV := ⟨0, 0, 0, v, 0⟩
def bx (k o : Nat) : SV := ⟨1, k, o, undef, 0⟩
def vi (x : Int) : SV := vv (.int .i64 x)
def isB (x : SV) : Bool := Nat.beq x.t 1
def SV.den (bs : List Nat) (x : SV) : Value := bif isB x then .pointer (some ⟨bs.getD x.k 0, x.o, none⟩) else x.v
structure SV.ok (m : Nat) (x : SV) : Prop where
  k : isB x = true → x.k < m
  q : (x.q = 1 → isB x = false ∧ x.v = .bool true) ∧ (x.q = 2 → isB x = false ∧ x.v = .bool false)
  u : x.q = 3 → isB x = false ∧ x.v = undef
theorem vv_ok (m : Nat) (v : Value) : (vv v).ok m := ⟨fun e => (nomatch e), ⟨fun e => (nomatch e), fun e => (nomatch e)⟩, fun e => (nomatch e)⟩
theorem bx_ok {m k o : Nat} (h : k < m) : (bx k o).ok m := ⟨fun _ => h, ⟨fun e => (nomatch e), fun e => (nomatch e)⟩, fun e => (nomatch e)⟩
theorem SV.ok.mono {m m' : Nat} {x : SV} (h : x.ok m) (hm : m ≤ m') : x.ok m' := ⟨fun e => Nat.lt_of_lt_of_le (h.k e) hm, h.q, h.u⟩
/-- What lies in memory: off which blocks it must stay. -/
structure Mf where
  L : World → Prop
  O : Nat → Prop
  g : ∀ (bs : List Nat) (w w' : World), w.heap.size ≤ w'.heap.size → (∀ k, k < w.heap.size → k ∉ bs → w'.heap[k]? = w.heap[k]?) → L w → (∀ b ∈ bs, O b) → L w' ∧ ∀ b, w.heap.size ≤ b → O b
structure SS where
  s : List (Nat × SV)
  b : List (List Value)
  m : List Mf
/-- Number of slots; blocks that are boxes from the beginning; the world then. -/
structure Cx where
  n : Nat
  bs0 : List Nat
  w0 : World
structure Fr (n : Nat) (bs : List Nat) (m : Nat) (s : List (Nat × SV)) (a : Act) : Prop where
  g : ∀ i x, s.lookup i = some x → a.tmps.getD i undef = x.den bs ∧ x.ok m
  d : a.defers = []
  z : a.tmps.size = n
structure BoxL (W : World) (b : Nat) (vs : List Value) : Prop where
  c : ∀ i v, vs[i]? = some v → W.cell? ⟨b, i, none⟩ = some v
  fz : ∀ j, W.frozen? ⟨b, j, none⟩ = false
  lt : b < W.heap.size
structure Bk (bs : List Nat) (B : List (List Value)) (w : World) : Prop where
  l : bs.length = B.length
  b : ∀ k vs, B[k]? = some vs → BoxL w (bs.getD k 0) vs
  nd : ∀ i j, i < bs.length → j < bs.length → i ≠ j → bs.getD i 0 ≠ bs.getD j 0
structure Tch (bs bs' : List Nat) (w w' : World) : Prop where
  bl : Below 0 w w'
  k : ∀ k, k < w.heap.size → k ∉ bs → w'.heap[k]? = w.heap[k]?
  n : ∃ nb, bs' = bs ++ nb ∧ ∀ b ∈ nb, w.heap.size ≤ b
structure At (C : Cx) (bs : List Nat) (st : SS) (a : Act) (w : World) : Prop where
  f : Fr C.n bs st.b.length st.s a
  b : Bk bs st.b w
  m : ∀ x ∈ st.m, x.L w ∧ ∀ b ∈ bs, x.O b
  t : Tch C.bs0 bs C.w0 w

theorem BoxL.below {W W' : World} {B b : Nat} {vs : List Value} (h : BoxL W b vs) (hb : Below B W W') (hB : b < B) : BoxL W' b vs :=
  ⟨fun i v hv => by rw [hb.cell (p := ⟨b, i, none⟩) hB]; exact h.c i v hv, fun j => by rw [hb.frozen (p := ⟨b, j, none⟩) hB]; exact h.fz j, Nat.lt_of_lt_of_le h.lt hb.size⟩
theorem BoxL.keep {W W' : World} {b : Nat} {vs : List Value} (h : BoxL W b vs) (hb : Below W.heap.size W W') : BoxL W' b vs := h.below hb h.lt
theorem BoxL.far {W W' : World} {b : Nat} {vs : List Value} (h : BoxL W b vs) (e : ∀ j, W'.cell? ⟨b, j, none⟩ = W.cell? ⟨b, j, none⟩) (hf : ∀ j, W'.frozen? ⟨b, j, none⟩ = W.frozen? ⟨b, j, none⟩) (hz : W.heap.size ≤ W'.heap.size) : BoxL W' b vs :=
  ⟨fun i v hv => by rw [e]; exact h.c i v hv, fun j => by rw [hf]; exact h.fz j, Nat.lt_of_lt_of_le h.lt hz⟩
theorem BoxL.made {W : World} {n : Nat} (hn : W.heap.size = n) (t : TypeId) (vs : List Value) : BoxL (W.alloc (.cells vs.toArray t)) n vs := by
  subst hn
  refine ⟨fun i v hv => ?_, fun j => by simp, by simp⟩
  have h := World.cell?_alloc_mark W vs.toArray t (0, 0) i
  rw [h]
  simpa using hv
theorem setCells_len (b : Nat) : ∀ (vs : List Value) (o : Nat) (w : World), (w.setCells b o vs).heap.size = w.heap.size
  | [], _, _ => rfl
  | v :: r, o, w => by
    show ((w.setCell ⟨b, o, none⟩ v).setCells b (o + 1) r).heap.size = _
    rw [setCells_len b r]
    simp
theorem BoxL.part {W : World} {b o : Nat} {us : List Value} (h : BoxL W b us) (vs : List Value) (hl : o + vs.length ≤ us.length) : BoxL (W.setCells b o vs) b (us.take o ++ vs ++ us.drop (o + vs.length)) := by
  refine ⟨fun i v hv => ?_, fun j => by rw [World.frozen?_setCells]; exact h.fz j, by rw [setCells_len]; exact h.lt⟩
  have ht : (us.take o).length = o := by rw [List.length_take]; omega
  by_cases h1 : i < o
  · rw [World.cell?_setCells_out b vs o W ⟨b, i, none⟩ (fun _ _ => .inl h1)]
    rw [List.append_assoc, List.getElem?_append_left (by omega), List.getElem?_take_of_lt h1] at hv
    exact h.c i v hv
  · by_cases h2 : i < o + vs.length
    · rw [List.append_assoc, List.getElem?_append_right (by omega), ht, List.getElem?_append_left (by omega)] at hv
      have hin := World.cell?_setCells_in b vs o W (fun k hk => by
        rw [h.c (o + k) us[o + k] (List.getElem?_eq_getElem (by omega))]
        rfl) (i - o) (by omega)
      rw [show o + (i - o) = i by omega] at hin
      rw [hin]
      obtain ⟨hi, he⟩ := List.getElem?_eq_some_iff.1 hv
      rw [he]
    · rw [World.cell?_setCells_out b vs o W ⟨b, i, none⟩ (fun _ _ => .inr (by show o + vs.length ≤ i; omega))]
      rw [List.append_assoc, List.getElem?_append_right (by omega), ht, List.getElem?_append_right (by omega), List.getElem?_drop] at hv
      exact h.c i v (by rw [← hv]; congr 1; omega)
theorem BoxL.one {W : World} {b i : Nat} {us : List Value} (h : BoxL W b us) (hi : i < us.length) (v : Value) : BoxL (W.setCell ⟨b, i, none⟩ v) b (us.set i v) := by
  refine ⟨fun j u hu => ?_, fun j => by simpa using h.fz j, by simpa using h.lt⟩
  rw [List.getElem?_set] at hu
  split at hu
  next e =>
    subst e
    cases hu
    exact World.cell?_setCell_same _ _ _ (h.c i _ (List.getElem?_eq_getElem hi))
  next e =>
    rw [World.cell?_setCell_other _ _ _ _ (fun e' => e (by have := congrArg Addr.off e'; simpa using this))]
    exact h.c j u hu
theorem BoxL.mid {w : World} {b : Nat} {us : List Value} (h : BoxL w b us) (i : Nat) (vs : List Value) (e : (us.drop i).take vs.length = vs) : w.rangeAt b i vs := by
  intro j v hv
  rw [← e] at hv
  have hj : j < vs.length := by
    obtain ⟨hj, _⟩ := List.getElem?_eq_some_iff.1 hv
    rw [List.length_take] at hj
    omega
  rw [List.getElem?_take_of_lt hj, List.getElem?_drop] at hv
  exact h.c (i + j) v hv
theorem BoxL.nil {w : World} {b : Nat} {vs : List Value} (h : BoxL w b vs) : BoxL w b [] := ⟨fun i v h => by simp at h, h.fz, h.lt⟩
theorem alloc_below (w : World) (o : Obj) : Below w.heap.size w (w.alloc o) := (Below.refl _ _).alloc (Nat.le_refl _) o
theorem drew_below (w : World) : Below w.heap.size w w.drew := (Below.refl _ _).drew
/-- Only this block may be otherwise. -/
structure Far (b : Nat) (w w' : World) : Prop where
  bk : ∀ k, k ≠ b → w'.heap[k]? = w.heap[k]?
  z : w'.heap.size = w.heap.size
  bl : Below b w w'
theorem Far.c {b : Nat} {w w' : World} (h : Far b w w') : ∀ k j, k ≠ b → w'.cell? ⟨k, j, none⟩ = w.cell? ⟨k, j, none⟩ := fun k _ hk => World.cell?_of_block (w := w) (h.bk k hk)
theorem Far.f {b : Nat} {w w' : World} (h : Far b w w') : ∀ k j, k ≠ b → w'.frozen? ⟨k, j, none⟩ = w.frozen? ⟨k, j, none⟩ := fun k _ hk => World.frozen?_of_block (w := w) (h.bk k hk)
theorem far_refl (w : World) (b : Nat) : Far b w w := ⟨fun _ _ => rfl, rfl, Below.refl _ _⟩
theorem far_trans {b : Nat} {w1 w2 w3 : World} (h : Far b w1 w2) (h' : Far b w2 w3) : Far b w1 w3 := ⟨fun k hk => (h'.bk k hk).trans (h.bk k hk), h'.z.trans h.z, h.bl.trans h'.bl⟩
theorem far_cell (w : World) (b i : Nat) (v : Value) : Far b w (w.setCell ⟨b, i, none⟩ v) := ⟨fun k hk => Below.heap_setCell w ⟨b, i, none⟩ v k hk, by simp, (Below.refl _ _).setCell (p := ⟨b, i, none⟩) (Nat.le_refl _) v⟩
theorem far_cells (b : Nat) : ∀ (vs : List Value) (i : Nat) (w : World), Far b w (w.setCells b i vs)
  | [], _, w => far_refl w b
  | v :: r, i, w => far_trans (far_cell w b i v) (far_cells b r (i + 1) _)
theorem Tch.refl (bs : List Nat) (w : World) : Tch bs bs w w := ⟨Below.refl _ _, fun _ _ _ => rfl, [], by simp, by simp⟩
theorem Tch.trans {bs bs' bs'' : List Nat} {w w' w'' : World} (h : Tch bs bs' w w') (h' : Tch bs' bs'' w' w'') : Tch bs bs'' w w'' := by
  obtain ⟨nb, rfl, hn⟩ := h.n
  obtain ⟨nb', rfl, hn'⟩ := h'.n
  refine ⟨h.bl.trans h'.bl, fun k hk hb => ?_, nb ++ nb', by simp, fun b hb => ?_⟩
  · rw [h'.k k (Nat.lt_of_lt_of_le hk h.bl.size) (fun hm => ?_), h.k k hk hb]
    rcases List.mem_append.1 hm with hm | hm
    · exact hb hm
    · have := hn k hm; omega
  · rcases List.mem_append.1 hb with hm | hm
    · exact hn b hm
    · exact Nat.le_trans h.bl.size (hn' b hm)
theorem Tch.below {bs : List Nat} {w w' : World} (h : Below w.heap.size w w') : Tch bs bs w w' := ⟨h.mono (Nat.zero_le _), fun k hk _ => h.block k hk, [], by simp, by simp⟩
theorem Tch.far {bs : List Nat} {w w' : World} {b : Nat} (hb : b ∈ bs) (h : Far b w w') : Tch bs bs w w' := ⟨h.bl.mono (Nat.zero_le _), fun k _ hk => h.bk k (fun e => hk (e ▸ hb)), [], by simp, by simp⟩
theorem Tch.new {bs : List Nat} {w : World} (o : Obj) : Tch bs (bs ++ [w.heap.size]) w (w.alloc o) := ⟨(alloc_below w o).mono (Nat.zero_le _), fun k hk _ => (alloc_below w o).block k hk, [w.heap.size], rfl, by simp⟩
theorem Tch.whole {bs : List Nat} {w w' : World} (h : Tch [] bs w w') : Below w.heap.size w w' := ⟨h.bl.os, h.bl.tape, h.bl.output, h.bl.size, fun k hk => h.k k hk (by simp)⟩
theorem Tch.low {bs : List Nat} {w w' : World} (h : Tch [] bs w w') : ∀ b ∈ bs, w.heap.size ≤ b := by
  obtain ⟨nb, rfl, hn⟩ := h.n
  intro b hb
  exact hn b (by simpa using hb)
theorem Fr.put {n m : Nat} {bs : List Nat} {s : List (Nat × SV)} {a : Act} (h : Fr n bs m s a) (d : Nat) (x : SV) (hd : d < n) (hx : x.ok m) : Fr n bs m ((d, x) :: s) (a.put (some d) (x.den bs)) := by
  refine ⟨fun i u hu => ?_, h.d, by simp [Act.put, h.z]⟩
  rw [List.lookup_cons] at hu
  have hz := h.z
  cases e : (i == d) with
  | true =>
    rw [e] at hu
    have : i = d := by simpa using e
    subst this
    cases hu
    exact ⟨by simp [Act.put, hz, hd], hx⟩
  | false =>
    rw [e] at hu
    have hne : i ≠ d := by simpa using e
    have := h.g i u hu
    refine ⟨?_, this.2⟩
    have := this.1
    simp [Act.put, Ne.symm hne] at this ⊢
    exact this
/-- A slot told anew. -/
theorem Fr.same {n m : Nat} {bs : List Nat} {s : List (Nat × SV)} {a : Act} (h : Fr n bs m s a) (d : Nat) (x y : SV) (e : s.lookup d = some y) (he : x.den bs = y.den bs) (hx : x.ok m) : Fr n bs m ((d, x) :: s) a := by
  refine ⟨fun i u hu => ?_, h.d, h.z⟩
  rw [List.lookup_cons] at hu
  cases e' : (i == d) with
  | true =>
    rw [e'] at hu
    have : i = d := by simpa using e'
    subst this
    cases hu
    exact ⟨by rw [he]; exact (h.g i y e).1, hx⟩
  | false => rw [e'] at hu; exact h.g i u hu
theorem getD_app {bs : List Nat} {x k : Nat} (hk : k < bs.length) : (bs ++ [x]).getD k 0 = bs.getD k 0 := by
  rw [List.getD_eq_getElem?_getD, List.getD_eq_getElem?_getD, List.getElem?_append_left hk]
theorem Fr.more {n m : Nat} {bs : List Nat} {s : List (Nat × SV)} {a : Act} (h : Fr n bs m s a) (hl : bs.length = m) (x : Nat) : Fr n (bs ++ [x]) (m + 1) s a := by
  refine ⟨fun i u hu => ?_, h.d, h.z⟩
  obtain ⟨h1, h2⟩ := h.g i u hu
  refine ⟨?_, h2.mono (Nat.le_succ _)⟩
  rw [h1]
  unfold SV.den
  cases hp : isB u with
  | false => rfl
  | true => simp only [cond_true]; rw [getD_app (by rw [hl]; exact h2.k hp)]
theorem Bk.keep {bs : List Nat} {B : List (List Value)} {w w' : World} (h : Bk bs B w) (hb : Below w.heap.size w w') : Bk bs B w' := ⟨h.l, fun k vs hv => (h.b k vs hv).keep hb, h.nd⟩
theorem getD_mem {bs : List Nat} {k : Nat} (hk : k < bs.length) : bs.getD k 0 ∈ bs := by
  rw [List.getD_eq_getElem?_getD, List.getElem?_eq_getElem hk]
  exact List.getElem_mem hk
theorem Bk.mem {bs : List Nat} {B : List (List Value)} {w : World} (h : Bk bs B w) : ∀ b ∈ bs, b < w.heap.size := by
  intro b hb
  obtain ⟨k, hk, he⟩ := List.mem_iff_getElem.1 hb
  have hk' : k < B.length := by rw [← h.l]; exact hk
  have := (h.b k _ (List.getElem?_eq_getElem hk')).lt
  rw [List.getD_eq_getElem?_getD, List.getElem?_eq_getElem hk, Option.getD_some, he] at this
  exact this
theorem Bk.alloc {bs : List Nat} {B : List (List Value)} {w : World} (h : Bk bs B w) (vs : List Value) (t : TypeId) : Bk (bs ++ [w.heap.size]) (B ++ [vs]) (w.alloc (.cells vs.toArray t)) := by
  have hk := h.keep (alloc_below w (.cells vs.toArray t))
  have hlast : (bs ++ [w.heap.size]).getD bs.length 0 = w.heap.size := by simp
  have hl := h.l
  refine ⟨by simp [h.l], fun k us e => ?_, fun i j hi hj hij => ?_⟩
  · by_cases hlt : k < B.length
    · rw [List.getElem?_append_left hlt] at e
      rw [getD_app (by omega)]
      exact hk.b k us e
    · obtain ⟨hk', _⟩ := List.getElem?_eq_some_iff.1 e
      rw [List.length_append, List.length_singleton] at hk'
      have : k = B.length := by omega
      subst this
      simp at e
      subst e
      rw [← hl, hlast]
      exact BoxL.made rfl _ _
  · rw [List.length_append, List.length_singleton] at hi hj
    by_cases h1 : i < bs.length <;> by_cases h2 : j < bs.length
    · rw [getD_app h1, getD_app h2]; exact h.nd i j h1 h2 hij
    · have : j = bs.length := by omega
      subst this
      rw [getD_app h1, hlast]
      have := h.mem _ (getD_mem h1)
      omega
    · have : i = bs.length := by omega
      subst this
      rw [getD_app h2, hlast]
      have := h.mem _ (getD_mem h2)
      omega
    · omega
theorem Bk.set {bs : List Nat} {B : List (List Value)} {w w' : World} {k : Nat} {us us' : List Value} (h : Bk bs B w) (e : B[k]? = some us) (hw : Far (bs.getD k 0) w w') (hb : BoxL w' (bs.getD k 0) us') : Bk bs (B.set k us') w' := by
  have hk : k < B.length := (List.getElem?_eq_some_iff.1 e).1
  refine ⟨by rw [List.length_set]; exact h.l, fun j vs hj => ?_, h.nd⟩
  rw [List.getElem?_set] at hj
  split at hj
  next hjk =>
    subst hjk
    cases hj
    exact hb
  next hjk =>
    have hj' : j < B.length := (List.getElem?_eq_some_iff.1 hj).1
    have hne : bs.getD j 0 ≠ bs.getD k 0 := h.nd j k (by rw [h.l]; exact hj') (by rw [h.l]; exact hk) (fun e => hjk e.symm)
    exact (h.b j vs hj).far (fun i => hw.c _ _ hne) (fun i => hw.f _ _ hne) (by rw [hw.z]; exact Nat.le_refl _)
/-- What lies there stays so. -/
theorem Mf.on {x : Mf} {bs bs' : List Nat} {w w' : World} (h : x.L w ∧ ∀ b ∈ bs, x.O b) (t : Tch bs bs' w w') : x.L w' ∧ ∀ b ∈ bs', x.O b := by
  obtain ⟨nb, rfl, hn⟩ := t.n
  obtain ⟨h1, h2⟩ := x.g bs w w' t.bl.size t.k h.1 h.2
  refine ⟨h1, fun b hb => ?_⟩
  rcases List.mem_append.1 hb with hm | hm
  · exact h.2 b hm
  · exact h2 b (hn b hm)
section
variable {C : Cx} {bs bs' : List Nat} {st : SS} {a : Act} {w w' : World}
theorem At.put {d : Nat} {x : SV} (A : At C bs st a w) (hd : d < C.n) (hx : x.ok st.b.length) : At C bs ⟨(d, x) :: st.s, st.b, st.m⟩ (a.put (some d) (x.den bs)) w := ⟨A.f.put d x hd hx, A.b, A.m, A.t⟩
theorem At.same {d : Nat} {x y : SV} (A : At C bs st a w) (e : st.s.lookup d = some y) (he : x.den bs = y.den bs) (hx : x.ok st.b.length) : At C bs ⟨(d, x) :: st.s, st.b, st.m⟩ a w := ⟨A.f.same d x y e he hx, A.b, A.m, A.t⟩
theorem At.keep (A : At C bs st a w) (h : Below w.heap.size w w') : At C bs st a w' := ⟨A.f, A.b.keep h, fun x hx => Mf.on (A.m x hx) (Tch.below h), A.t.trans (Tch.below h)⟩
theorem At.boxes {B : List (List Value)} (A : At C bs st a w) (hl : B.length = st.b.length) (hb : Bk bs B w') (t : Tch bs bs w w') : At C bs ⟨st.s, B, st.m⟩ a w' := ⟨by have := A.f; rwa [← hl] at this, hb, fun x hx => Mf.on (A.m x hx) t, A.t.trans t⟩
theorem At.alloc (A : At C bs st a w) (vs : List Value) (T : TypeId) : At C (bs ++ [w.heap.size]) ⟨st.s, st.b ++ [vs], st.m⟩ a (w.alloc (.cells vs.toArray T)) := by
  refine ⟨?_, A.b.alloc vs T, fun x hx => Mf.on (A.m x hx) (Tch.new _), A.t.trans (Tch.new _)⟩
  have := A.f.more A.b.l w.heap.size
  simpa using this
theorem At.fact (A : At C bs st a w) (i : Nat) (x : Mf) (h : st.m[i]? = some x) : x.L w ∧ ∀ b ∈ bs, x.O b := A.m x (List.mem_of_getElem? h)
theorem At.more (A : At C bs st a w) {ms : List Mf} (h : ∀ x ∈ ms, x.L w ∧ ∀ b ∈ bs, x.O b) : At C bs ⟨st.s, st.b, ms ++ st.m⟩ a w := ⟨A.f, A.b, fun x hx => (List.mem_append.1 hx).elim (h x) (A.m x), A.t⟩
end
end En
end Go.Proofs.Ytbpmcabeghbalaa
