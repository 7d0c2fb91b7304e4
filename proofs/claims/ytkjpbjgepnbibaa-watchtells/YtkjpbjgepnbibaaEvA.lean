/- The second engine: slots, boxes, rows, and what lies in memory, told by data. -/
import Derived.WalkKit
import Derived.WalkSpells
import Derived.WalkLawsBesides
import Derived.Deep.RegionHeld3
import Derived.Deep.MidRow
import Derived.OrdersHeld
import Derived.Great.BuildSlice
import Derived.Deep.AppendLies
namespace Go.Proofs.Ytkjpbjgepnbibaa
namespace Ev
open Go.RowKit
set_option maxRecDepth 100000

/-- A block that a box lies in, and a row's capacity. -/
structure Blk where
  a : Option Nat
  c : Nat
/-- A slot's value: a value; a number, a truth that is known; of an operation that was not wanted; a place in a box; a row; a struct; what several results are; a function with what it has caught. -/
inductive SV where
  | val (x : Value)
  | num (n : Int)
  | bit (b : Bool)
  | non
  | ptr (k o : Nat)
  | row (k n : Nat)
  | agg (l : List SV)
  | tup (l : List SV)
  | fn (g : Fn) (x y : List SV)
def vi (x : Int) : SV := .val (.int .i64 x)
def Blk.ad (b : Blk) : Option Addr := b.a.map fun x => ⟨x, 0, none⟩
def bkA (bs : List Blk) (k : Nat) : Blk := bs.getD k ⟨none, 0⟩
mutual
def SV.den (bs : List Blk) : SV → Value
  | .val x => x
  | .num n => .int .i64 n
  | .bit b => .bool b
  | .non => undef
  | .ptr k o => .pointer (some ⟨(bkA bs k).a.getD 0, o, none⟩)
  | .row k n => .slice (bkA bs k).ad n (bkA bs k).c
  | .agg l => .agg (denL bs l).toArray
  | .tup l => .tuple (denL bs l).toArray
  | .fn g x y => .func g (denL bs x).toArray (denL bs y).toArray
def denL (bs : List Blk) : List SV → List Value
  | [] => []
  | x :: r => x.den bs :: denL bs r
end
mutual
def okB (m : Nat) : SV → Bool
  | .ptr k _ => Nat.blt k m
  | .row k _ => Nat.blt k m
  | .agg l => okL m l
  | .tup l => okL m l
  | .fn _ x y => okL m x && okL m y
  | _ => true
def okL (m : Nat) : List SV → Bool
  | [] => true
  | x :: r => okB m x && okL m r
end
theorem bkA_app {bs nb : List Blk} {k : Nat} (h : k < bs.length) : bkA (bs ++ nb) k = bkA bs k := by
  unfold bkA
  rw [List.getD_eq_getElem?_getD, List.getD_eq_getElem?_getD, List.getElem?_append_left h]
theorem bkA_last {bs : List Blk} {b : Blk} : bkA (bs ++ [b]) bs.length = b := by
  unfold bkA
  simp
mutual
theorem den_app {bs nb : List Blk} : ∀ {x : SV}, okB bs.length x = true → x.den (bs ++ nb) = x.den bs
  | .val _, _ => by simp only [SV.den]
  | .num _, _ => by simp only [SV.den]
  | .bit _, _ => by simp only [SV.den]
  | .non, _ => by simp only [SV.den]
  | .ptr k o, h => by
    simp only [okB] at h
    simp only [SV.den]
    rw [bkA_app (Nat.le_of_ble_eq_true h)]
  | .row k n, h => by
    simp only [okB] at h
    simp only [SV.den]
    rw [bkA_app (Nat.le_of_ble_eq_true h)]
  | .agg l, h => by
    simp only [okB] at h
    simp only [SV.den]
    rw [denL_app h]
  | .tup l, h => by
    simp only [okB] at h
    simp only [SV.den]
    rw [denL_app h]
  | .fn g x y, h => by
    simp only [okB, Bool.and_eq_true] at h
    simp only [SV.den]
    rw [denL_app h.1, denL_app h.2]
theorem denL_app {bs nb : List Blk} : ∀ {l : List SV}, okL bs.length l = true → denL (bs ++ nb) l = denL bs l
  | [], _ => by simp only [denL]
  | x :: r, h => by
    simp only [okL, Bool.and_eq_true] at h
    simp only [denL]
    rw [den_app h.1, denL_app h.2]
end
mutual
theorem okB_mono {m m' : Nat} (hm : m ≤ m') : ∀ {x : SV}, okB m x = true → okB m' x = true
  | .val _, _ => by simp only [okB]
  | .num _, _ => by simp only [okB]
  | .bit _, _ => by simp only [okB]
  | .non, _ => by simp only [okB]
  | .ptr k o, h => by
    simp only [okB] at h ⊢
    exact Nat.ble_eq_true_of_le (Nat.le_trans (Nat.le_of_ble_eq_true h) hm)
  | .row k o, h => by
    simp only [okB] at h ⊢
    exact Nat.ble_eq_true_of_le (Nat.le_trans (Nat.le_of_ble_eq_true h) hm)
  | .agg l, h => by
    simp only [okB] at h ⊢
    exact okL_mono hm h
  | .tup l, h => by
    simp only [okB] at h ⊢
    exact okL_mono hm h
  | .fn g x y, h => by
    simp only [okB, Bool.and_eq_true] at h ⊢
    exact ⟨okL_mono hm h.1, okL_mono hm h.2⟩
theorem okL_mono {m m' : Nat} (hm : m ≤ m') : ∀ {l : List SV}, okL m l = true → okL m' l = true
  | [], _ => by simp only [okL]
  | x :: r, h => by
    simp only [okL, Bool.and_eq_true] at h ⊢
    exact ⟨okB_mono hm h.1, okL_mono hm h.2⟩
end
theorem denL_map (bs : List Blk) : ∀ l : List SV, denL bs l = l.map (·.den bs)
  | [] => by simp [denL]
  | x :: r => by rw [denL, denL_map bs r, List.map_cons]
theorem denL_v (bs : List Blk) : ∀ l : List Value, denL bs (l.map .val) = l
  | [] => by simp [denL]
  | x :: r => by rw [List.map_cons, denL, denL_v bs r, SV.den]
theorem okL_all {m : Nat} : ∀ {l : List SV}, okL m l = true ↔ ∀ x ∈ l, okB m x = true
  | [] => by simp [okL]
  | x :: r => by simp [okL, okL_all (l := r)]
theorem denL_app2 (bs : List Blk) : ∀ x y : List SV, denL bs (x ++ y) = denL bs x ++ denL bs y
  | [], y => by simp [denL]
  | x :: r, y => by rw [List.cons_append, denL, denL, denL_app2 bs r y, List.cons_append]
theorem denL_take (bs : List Blk) : ∀ (n : Nat) (l : List SV), denL bs (l.take n) = (denL bs l).take n
  | 0, l => by simp [denL]
  | n + 1, [] => by simp [denL]
  | n + 1, x :: r => by rw [List.take_succ_cons, denL, denL, List.take_succ_cons, denL_take bs n r]
theorem denL_drop (bs : List Blk) : ∀ (n : Nat) (l : List SV), denL bs (l.drop n) = (denL bs l).drop n
  | 0, l => by simp
  | n + 1, [] => by simp [denL]
  | n + 1, x :: r => by rw [List.drop_succ_cons, denL, List.drop_succ_cons, denL_drop bs n r]
theorem denL_len (bs : List Blk) (l : List SV) : (denL bs l).length = l.length := by rw [denL_map, List.length_map]
theorem denL_at (bs : List Blk) (l : List SV) (i : Nat) : (denL bs l)[i]? = (l[i]?).map (·.den bs) := by rw [denL_map, List.getElem?_map]
theorem denL_set (bs : List Blk) (l : List SV) (i : Nat) (x : SV) : denL bs (l.set i x) = (denL bs l).set i (x.den bs) := by rw [denL_map, denL_map, List.map_set]
theorem okL_app {m : Nat} {x y : List SV} (hx : okL m x = true) (hy : okL m y = true) : okL m (x ++ y) = true := by
  rw [okL_all] at *
  intro z hz
  exact (List.mem_append.1 hz).elim (hx z) (hy z)
theorem okL_take {m n : Nat} {l : List SV} (h : okL m l = true) : okL m (l.take n) = true := by
  rw [okL_all] at *
  exact fun z hz => h z (List.mem_of_mem_take hz)
theorem okL_drop {m n : Nat} {l : List SV} (h : okL m l = true) : okL m (l.drop n) = true := by
  rw [okL_all] at *
  exact fun z hz => h z (List.mem_of_mem_drop hz)
theorem okL_at {m i : Nat} {l : List SV} {x : SV} (h : okL m l = true) (e : l[i]? = some x) : okB m x = true := okL_all.1 h x (List.mem_of_getElem? e)
theorem okL_set {m i : Nat} {l : List SV} {x : SV} (h : okL m l = true) (hx : okB m x = true) : okL m (l.set i x) = true := by
  rw [okL_all] at *
  intro z hz
  rcases List.mem_or_eq_of_mem_set hz with hz | rfl
  · exact h z hz
  · exact hx
theorem okL_v (m : Nat) (l : List Value) : okL m (l.map .val) = true := by
  rw [okL_all]
  intro z hz
  obtain ⟨y, _, rfl⟩ := List.mem_map.1 hz
  simp only [okB]

/-- What lies in memory: off which blocks it must stay. -/
structure Mf where
  L : World → Prop
  O : Nat → Prop
  g : ∀ (bs : List Nat) (w w' : World), w.heap.size ≤ w'.heap.size → (∀ k, k < w.heap.size → k ∉ bs → w'.heap[k]? = w.heap[k]?) → L w → (∀ b ∈ bs, O b) → L w' ∧ ∀ b, w.heap.size ≤ b → O b
/-- A box: of no account any more; cells; a row of so many elements (their type, their size). -/
inductive Bx where
  | dead
  | cells (l : List SV)
  | row (e : TypeId) (z n : Nat) (l : List Value)
structure SS where
  s : List (Nat × SV)
  b : List Bx
  m : List Mf
/-- Number of slots; blocks that may be written; the world in the beginning; blocks that all facts must stay off; boxes that keep their places. -/
structure Cx where
  n : Nat
  S : List Nat
  w0 : World
  Z : Nat → Prop
  b0 : List Blk
structure Fr (n : Nat) (bs : List Blk) (s : List (Nat × SV)) (a : Act) : Prop where
  g : ∀ i x, s.lookup i = some x → a.tmps.getD i undef = x.den bs ∧ okB bs.length x = true
  d : a.defers = []
  z : a.tmps.size = n
structure BoxL (W : World) (b : Nat) (vs : List Value) : Prop where
  c : ∀ i v, vs[i]? = some v → W.cell? ⟨b, i, none⟩ = some v
  fz : ∀ j, W.frozen? ⟨b, j, none⟩ = false
  lt : b < W.heap.size
def Bx.is (w : World) (bs : List Blk) (b : Blk) : Bx → Prop
  | .dead => True
  | .cells l => ∃ x, b.a = some x ∧ BoxL w x (denL bs l)
  | .row e z n l => w.ownsRow 0 e z (.slice b.ad n b.c) n l
structure Bx.at (w : World) (bs : List Blk) (b : Blk) (x : Bx) : Prop where
  o : x.is w bs b
def okX (m : Nat) : Bx → Bool
  | .cells l => okL m l
  | _ => true
/-- The block that a box lies in. -/
def Bx.bl : Bx → Blk → Option Nat
  | .dead, _ => none
  | .cells _, b => b.a
  | .row _ _ _ _, b => b.a
def live (bs : List Blk) (B : List Bx) (k : Nat) : Option Nat := (B[k]?).bind fun x => x.bl (bkA bs k)
def lvs (bs : List Blk) (B : List Bx) : List Nat := (List.range B.length).filterMap (live bs B)
structure Bk (bs : List Blk) (B : List Bx) (w : World) : Prop where
  l : bs.length = B.length
  b : ∀ k x, B[k]? = some x → Bx.at w bs (bkA bs k) x
  ok : ∀ x ∈ B, okX bs.length x = true
  nd : ∀ i j X, i ≠ j → live bs B i = some X → live bs B j = some X → False
/-- A step: what may be written, and more boxes behind those that there are. -/
structure Stp (bs bs' : List Blk) (S : List Nat) (w w' : World) : Prop where
  bl : Below 0 w w'
  k : ∀ k, k < w.heap.size → k ∉ S → w'.heap[k]? = w.heap[k]?
  n : ∃ nb, bs' = bs ++ nb
structure Tch (S : List Nat) (w w' : World) : Prop where
  bl : Below 0 w w'
  k : ∀ k, k < w.heap.size → k ∉ S → w'.heap[k]? = w.heap[k]?
structure Lies (Z : Nat → Prop) (bs : List Blk) (B : List Bx) (w : World) (x : Mf) : Prop where
  l : x.L w
  o : ∀ k X, live bs B k = some X → x.O X
  z : ∀ X, Z X → x.O X
structure At (C : Cx) (bs : List Blk) (st : SS) (a : Act) (w : World) : Prop where
  f : Fr C.n bs st.s a
  b : Bk bs st.b w
  m : ∀ x ∈ st.m, Lies C.Z bs st.b w x
  t : Tch C.S C.w0 w
  n : ∀ k X, live bs st.b k = some X → X ∈ C.S ∨ C.w0.heap.size ≤ X
  y : ∀ X, C.Z X → X < C.w0.heap.size ∧ X ∉ C.S
  p : ∃ nb, bs = C.b0 ++ nb

theorem blk_lt {w : World} {i : Nat} {x : Obj} (h : w.heap[i]? = some x) : i < w.heap.size := by
  rcases Nat.lt_or_ge i w.heap.size with h' | h'
  · exact h'
  · rw [Array.getElem?_eq_none h'] at h
    cases h
theorem BoxL.same {W W' : World} {b : Nat} {vs : List Value} (h : BoxL W b vs) (e : W'.heap[b]? = W.heap[b]?) (hz : W.heap.size ≤ W'.heap.size) : BoxL W' b vs :=
  ⟨fun i v hv => by rw [World.cell?_of_block (w := W) e]; exact h.c i v hv, fun j => by rw [World.frozen?_of_block (w := W) e]; exact h.fz j, Nat.lt_of_lt_of_le h.lt hz⟩
theorem BoxL.made (W : World) (t : TypeId) (vs : List Value) : BoxL (W.alloc (.cells vs.toArray t)) W.heap.size vs := by
  refine ⟨fun i v hv => ?_, fun j => by simp, by simp⟩
  have h := World.cell?_alloc_mark W vs.toArray t (0, 0) i
  rw [h]
  simpa using hv
theorem setCells_len (b : Nat) : ∀ (vs : List Value) (o : Nat) (w : World), (w.setCells b o vs).heap.size = w.heap.size
  | [], _, _ => rfl
  | v :: r, o, w => by
    show ((w.setCell ⟨b, o, none⟩ v).setCells b (o + 1) r).heap.size = _
    rw [setCells_len b r]
    simp
theorem BoxL.part {W : World} {b o : Nat} {us : List Value} (h : BoxL W b us) (vs : List Value) (hl : o + vs.length ≤ us.length) : BoxL (W.setCells b o vs) b (us.take o ++ vs ++ us.drop (o + vs.length)) := by
  refine ⟨fun i v hv => ?_, fun j => by rw [World.frozen?_setCells]; exact h.fz j, by rw [setCells_len]; exact h.lt⟩
  have ht : (us.take o).length = o := by rw [List.length_take]; omega
  by_cases h1 : i < o
  · rw [World.cell?_setCells_out b vs o W ⟨b, i, none⟩ (fun _ _ => .inl h1)]
    rw [List.append_assoc, List.getElem?_append_left (by omega), List.getElem?_take_of_lt h1] at hv
    exact h.c i v hv
  · by_cases h2 : i < o + vs.length
    · rw [List.append_assoc, List.getElem?_append_right (by omega), ht, List.getElem?_append_left (by omega)] at hv
      have hin := World.cell?_setCells_in b vs o W (fun k hk => by
        rw [h.c (o + k) us[o + k] (List.getElem?_eq_getElem (by omega))]
        rfl) (i - o) (by omega)
      rw [show o + (i - o) = i by omega] at hin
      rw [hin]
      obtain ⟨hi, he⟩ := List.getElem?_eq_some_iff.1 hv
      rw [he]
    · rw [World.cell?_setCells_out b vs o W ⟨b, i, none⟩ (fun _ _ => .inr (by show o + vs.length ≤ i; omega))]
      rw [List.append_assoc, List.getElem?_append_right (by omega), ht, List.getElem?_append_right (by omega), List.getElem?_drop] at hv
      exact h.c i v (by rw [← hv]; congr 1; omega)
theorem BoxL.one {W : World} {b i : Nat} {us : List Value} (h : BoxL W b us) (hi : i < us.length) (v : Value) : BoxL (W.setCell ⟨b, i, none⟩ v) b (us.set i v) := by
  refine ⟨fun j u hu => ?_, fun j => by simpa using h.fz j, by simpa using h.lt⟩
  rw [List.getElem?_set] at hu
  split at hu
  next e =>
    subst e
    cases hu
    exact World.cell?_setCell_same _ _ _ (h.c i _ (List.getElem?_eq_getElem hi))
  next e =>
    rw [World.cell?_setCell_other _ _ _ _ (fun e' => e (by have := congrArg Addr.off e'; simpa using this))]
    exact h.c j u hu
theorem BoxL.mid {w : World} {b : Nat} {us : List Value} (h : BoxL w b us) (i : Nat) (vs : List Value) (e : (us.drop i).take vs.length = vs) : w.rangeAt b i vs := by
  intro j v hv
  rw [← e] at hv
  have hj : j < vs.length := by
    obtain ⟨hj, _⟩ := List.getElem?_eq_some_iff.1 hv
    rw [List.length_take] at hj
    omega
  rw [List.getElem?_take_of_lt hj, List.getElem?_drop] at hv
  exact h.c (i + j) v hv
theorem alloc_below (w : World) (o : Obj) : Below w.heap.size w (w.alloc o) := (Below.refl _ _).alloc (Nat.le_refl _) o
theorem drew_below (w : World) : Below w.heap.size w w.drew := (Below.refl _ _).drew
/-- Only this block may be otherwise. -/
structure Far (b : Nat) (w w' : World) : Prop where
  bk : ∀ k, k ≠ b → w'.heap[k]? = w.heap[k]?
  z : w'.heap.size = w.heap.size
  bl : Below b w w'
theorem far_refl (w : World) (b : Nat) : Far b w w := ⟨fun _ _ => rfl, rfl, Below.refl _ _⟩
theorem far_trans {b : Nat} {w1 w2 w3 : World} (h : Far b w1 w2) (h' : Far b w2 w3) : Far b w1 w3 := ⟨fun k hk => (h'.bk k hk).trans (h.bk k hk), h'.z.trans h.z, h.bl.trans h'.bl⟩
theorem far_cell (w : World) (b i : Nat) (v : Value) : Far b w (w.setCell ⟨b, i, none⟩ v) := ⟨fun k hk => Below.heap_setCell w ⟨b, i, none⟩ v k hk, by simp, (Below.refl _ _).setCell (p := ⟨b, i, none⟩) (Nat.le_refl _) v⟩
theorem far_cells (b : Nat) : ∀ (vs : List Value) (i : Nat) (w : World), Far b w (w.setCells b i vs)
  | [], _, w => far_refl w b
  | v :: r, i, w => far_trans (far_cell w b i v) (far_cells b r (i + 1) _)
theorem owns_lt {w : World} {base size n : Nat} {e : TypeId} {v : Value} {xs : List Value} (h : w.ownsRow base e size v n xs) {X : Nat} (hX : v.ownBlock = some X) : X < w.heap.size := (h.lt X hX).2
theorem owns_same {w w' : World} {base size n : Nat} {e : TypeId} {v : Value} {xs : List Value} (h : w.ownsRow base e size v n xs) (hs : ∀ X, v.ownBlock = some X → w'.heap[X]? = w.heap[X]?) : w'.ownsRow base e size v n xs := by
  refine ⟨h.1, ?_⟩
  rcases h.2 with hn | ⟨g, cap, cur, rfl, hb, hgg, rest⟩
  · exact .inl hn
  · exact .inr ⟨g, cap, cur, rfl, hb, by rw [hs g rfl]; exact hgg, rest⟩
theorem ownBlock_ad (b : Blk) (n c : Nat) : (Value.slice b.ad n c).ownBlock = b.a := by
  unfold Blk.ad
  cases b.a with
  | none => rfl
  | some x => rfl

theorem live_lt {bs : List Blk} {B : List Bx} {k X : Nat} (h : live bs B k = some X) : k < B.length := by
  unfold live at h
  obtain ⟨x, h1, _⟩ := Option.bind_eq_some_iff.1 h
  exact (List.getElem?_eq_some_iff.1 h1).1
theorem mem_lvs {bs : List Blk} {B : List Bx} {X : Nat} : X ∈ lvs bs B ↔ ∃ k, live bs B k = some X := by
  unfold lvs
  rw [List.mem_filterMap]
  constructor
  · rintro ⟨k, _, h⟩
    exact ⟨k, h⟩
  · rintro ⟨k, h⟩
    exact ⟨k, List.mem_range.2 (live_lt h), h⟩
/-- A box is so still, where its block is. -/
theorem Bx.at.same {w w' : World} {bs : List Blk} {b : Blk} {x : Bx} (h : Bx.at w bs b x) (hz : w.heap.size ≤ w'.heap.size) (hs : ∀ X, x.bl b = some X → w'.heap[X]? = w.heap[X]?) : Bx.at w' bs b x := by
  cases x with
  | dead => exact ⟨trivial⟩
  | cells l =>
    obtain ⟨X, h1, h2⟩ := h.o
    exact ⟨X, h1, h2.same (hs X h1) hz⟩
  | row e z n l => exact ⟨owns_same h.o fun X hX => hs X (by rw [ownBlock_ad] at hX; exact hX)⟩
theorem Bx.at.app {w : World} {bs nb : List Blk} {b : Blk} {x : Bx} (h : Bx.at w bs b x) (hok : okX bs.length x = true) : Bx.at w (bs ++ nb) b x := by
  cases x with
  | dead => exact ⟨trivial⟩
  | cells l =>
    obtain ⟨X, h1, h2⟩ := h.o
    exact ⟨X, h1, by rw [denL_app hok]; exact h2⟩
  | row e z n l => exact ⟨h.o⟩
theorem Bx.at.lt {w : World} {bs : List Blk} {b : Blk} {x : Bx} (h : Bx.at w bs b x) {X : Nat} (hX : x.bl b = some X) : X < w.heap.size := by
  cases x with
  | dead => cases hX
  | cells l =>
    obtain ⟨Y, h1, h2⟩ := h.o
    have hX' : b.a = some X := hX
    rw [h1] at hX'
    cases hX'
    exact h2.lt
  | row e z n l => exact owns_lt h.o (by rw [ownBlock_ad]; exact hX)
theorem Bk.lt {bs : List Blk} {B : List Bx} {w : World} (h : Bk bs B w) {k X : Nat} (hX : live bs B k = some X) : X < w.heap.size := by
  unfold live at hX
  obtain ⟨x, h1, h2⟩ := Option.bind_eq_some_iff.1 hX
  exact (h.b k x h1).lt h2
theorem okX_mono {m m' : Nat} (hm : m ≤ m') {x : Bx} (h : okX m x = true) : okX m' x = true := by
  cases x with
  | cells l => exact okL_mono hm h
  | _ => rfl
theorem live_app {bs : List Blk} {B : List Bx} {nb : List Blk} {nB : List Bx} (hl : bs.length = B.length) {k : Nat} (hk : k < B.length) : live (bs ++ nb) (B ++ nB) k = live bs B k := by
  unfold live
  rw [List.getElem?_append_left hk, bkA_app (by omega)]
theorem live_last {bs : List Blk} {B : List Bx} {b : Blk} {x : Bx} (hl : bs.length = B.length) : live (bs ++ [b]) (B ++ [x]) B.length = x.bl b := by
  unfold live
  rw [List.getElem?_append_right (Nat.le_refl _), ← hl, bkA_last]
  simp
theorem live_more {bs : List Blk} {B : List Bx} {b : Blk} {x : Bx} (hl : bs.length = B.length) {k X : Nat} (h : live (bs ++ [b]) (B ++ [x]) k = some X) : (k < B.length ∧ live bs B k = some X) ∨ (k = B.length ∧ x.bl b = some X) := by
  have hk := live_lt h
  rw [List.length_append, List.length_singleton] at hk
  rcases Nat.lt_or_ge k B.length with h1 | h1
  · rw [live_app hl h1] at h
    exact .inl ⟨h1, h⟩
  · have : k = B.length := by omega
    subst this
    rw [live_last hl] at h
    exact .inr ⟨rfl, h⟩
theorem Bk.keep {bs : List Blk} {B : List Bx} {w w' : World} (h : Bk bs B w) (hz : w.heap.size ≤ w'.heap.size) (hs : ∀ k X, live bs B k = some X → w'.heap[X]? = w.heap[X]?) : Bk bs B w' :=
  ⟨h.l, fun k x hx => (h.b k x hx).same hz fun X hX => hs k X (by unfold live; rw [hx]; exact hX), h.ok, h.nd⟩
theorem Bk.below {bs : List Blk} {B : List Bx} {w w' : World} (h : Bk bs B w) (hb : Below w.heap.size w w') : Bk bs B w' := h.keep hb.size fun _ _ hX => hb.block _ (h.lt hX)
/-- One box more. -/
theorem Bk.more {bs : List Blk} {B : List Bx} {w : World} {b : Blk} {x : Bx} (h : Bk bs B w) (hx : Bx.at w (bs ++ [b]) b x) (hok : okX (bs.length + 1) x = true) (hn : ∀ X, x.bl b = some X → ∀ k, live bs B k ≠ some X) : Bk (bs ++ [b]) (B ++ [x]) w := by
  have hl := h.l
  refine ⟨by simp [h.l], fun k y e => ?_, fun y hy => ?_, fun i j X hij hi hj => ?_⟩
  · rcases Nat.lt_or_ge k B.length with hk | hk
    · rw [List.getElem?_append_left hk] at e
      rw [bkA_app (by omega)]
      exact (h.b k y e).app (h.ok y (List.mem_of_getElem? e))
    · have hk' := (List.getElem?_eq_some_iff.1 e).1
      rw [List.length_append, List.length_singleton] at hk'
      have : k = B.length := by omega
      subst this
      simp at e
      subst e
      rw [← hl, bkA_last]
      exact hx
  · rw [List.length_append, List.length_singleton]
    rcases List.mem_append.1 hy with hy | hy
    · exact okX_mono (Nat.le_succ _) (h.ok y hy)
    · rw [List.mem_singleton.1 hy]; exact hok
  · rcases live_more hl hi with ⟨_, h1⟩ | ⟨h1, h2⟩ <;> rcases live_more hl hj with ⟨_, h3⟩ | ⟨h3, h4⟩
    · exact h.nd i j X hij h1 h3
    · exact hn X h4 i h1
    · exact hn X h2 j h3
    · omega
theorem live_set {bs : List Blk} {B : List Bx} {k : Nat} {x y : Bx} (e : B[k]? = some x) (hb : y.bl = x.bl) (j : Nat) : live bs (B.set k y) j = live bs B j := by
  unfold live
  rw [List.getElem?_set]
  split
  next h =>
    subst h
    have hk := (List.getElem?_eq_some_iff.1 e).1
    rw [if_pos hk, e]
    simp [hb]
  next h => rfl
theorem live_dead {bs : List Blk} {B : List Bx} {k j X : Nat} (h : live bs (B.set k .dead) j = some X) : j ≠ k ∧ live bs B j = some X := by
  unfold live at h ⊢
  rw [List.getElem?_set] at h
  split at h
  next e =>
    subst e
    split at h
    · cases h
    · cases h
  next e => exact ⟨fun e' => e e'.symm, h⟩
/-- A box written anew. -/
theorem Bk.set {bs : List Blk} {B : List Bx} {w w' : World} {k X : Nat} {x y : Bx} (h : Bk bs B w) (e : B[k]? = some x) (hX : x.bl (bkA bs k) = some X) (hb : y.bl = x.bl) (hw : Far X w w') (hy : Bx.at w' bs (bkA bs k) y) (hok : okX bs.length y = true) : Bk bs (B.set k y) w' := by
  refine ⟨by rw [List.length_set]; exact h.l, fun j z hj => ?_, fun z hz => ?_, fun i j Y hij hi hj => ?_⟩
  · rw [List.getElem?_set] at hj
    split at hj
    next hjk =>
      subst hjk
      split at hj
      · cases hj
        exact hy
      · cases hj
    next hjk =>
      refine (h.b j z hj).same (by rw [hw.z]; exact Nat.le_refl _) fun Y hY => hw.bk Y fun e' => ?_
      subst e'
      exact h.nd j k Y (fun e => hjk e.symm) (by unfold live; rw [hj]; exact hY) (by unfold live; rw [e]; exact hX)
  · rcases List.mem_or_eq_of_mem_set hz with hz | rfl
    · exact h.ok z hz
    · exact hok
  · rw [live_set e hb] at hi hj
    exact h.nd i j Y hij hi hj
/-- A box is of no account any more. -/
theorem Bk.dead {bs : List Blk} {B : List Bx} {w : World} (h : Bk bs B w) (k : Nat) : Bk bs (B.set k .dead) w := by
  refine ⟨by rw [List.length_set]; exact h.l, fun j z hj => ?_, fun z hz => ?_, fun i j Y hij hi hj => ?_⟩
  · rw [List.getElem?_set] at hj
    split at hj
    · split at hj
      · cases hj; exact ⟨trivial⟩
      · cases hj
    · exact h.b j z hj
  · rcases List.mem_or_eq_of_mem_set hz with hz | rfl
    · exact h.ok z hz
    · rfl
  · exact h.nd i j Y hij (live_dead hi).2 (live_dead hj).2
/-- What lies there stays so. -/
theorem Lies.on {Z : Nat → Prop} {bs bs' : List Blk} {B B' : List Bx} {w w' : World} {x : Mf} (h : Lies Z bs B w x) (hz : w.heap.size ≤ w'.heap.size) (hs : ∀ k, k < w.heap.size → k ∉ lvs bs B → w'.heap[k]? = w.heap[k]?) (hn : ∀ k X, live bs' B' k = some X → (∃ j, live bs B j = some X) ∨ w.heap.size ≤ X) : Lies Z bs' B' w' x := by
  obtain ⟨h1, h2⟩ := x.g (lvs bs B) w w' hz hs h.l fun b hb => by
    obtain ⟨k, hk⟩ := mem_lvs.1 hb
    exact h.o k b hk
  refine ⟨h1, fun k X hX => ?_, h.z⟩
  rcases hn k X hX with ⟨j, hj⟩ | hX
  · exact h.o j X hj
  · exact h2 X hX
theorem Mf.off {x : Mf} {w : World} (h : x.L w) {X : Nat} (hX : w.heap.size ≤ X) : x.O X := (x.g [] w w (Nat.le_refl _) (fun _ _ _ => rfl) h (by simp)).2 X hX
theorem Tch.refl (S : List Nat) (w : World) : Tch S w w := ⟨Below.refl _ _, fun _ _ _ => rfl⟩
theorem Tch.below {S : List Nat} {w w' : World} (h : Below w.heap.size w w') : Tch S w w' := ⟨h.mono (Nat.zero_le _), fun k hk _ => h.block k hk⟩
theorem Stp.refl (bs : List Blk) (S : List Nat) (w : World) : Stp bs bs S w w := ⟨Below.refl _ _, fun _ _ _ => rfl, [], by simp⟩
theorem Stp.below {bs : List Blk} {S : List Nat} {w w' : World} (h : Below w.heap.size w w') : Stp bs bs S w w' := ⟨h.mono (Nat.zero_le _), fun k hk _ => h.block k hk, [], by simp⟩
theorem Stp.far {bs : List Blk} {S : List Nat} {w w' : World} {b : Nat} (hb : b ∈ S) (h : Far b w w') : Stp bs bs S w w' := ⟨h.bl.mono (Nat.zero_le _), fun k _ hk => h.bk k (fun e => hk (e ▸ hb)), [], by simp⟩
theorem Stp.newB {bs : List Blk} {S : List Nat} {w w' : World} (nb : List Blk) (h : Below w.heap.size w w') : Stp bs (bs ++ nb) S w w' := ⟨h.mono (Nat.zero_le _), fun k hk _ => h.block k hk, nb, rfl⟩
theorem Fr.put {n : Nat} {bs : List Blk} {s : List (Nat × SV)} {a : Act} (h : Fr n bs s a) (d : Nat) (x : SV) (hd : d < n) (hx : okB bs.length x = true) : Fr n bs ((d, x) :: s) (a.put (some d) (x.den bs)) := by
  refine ⟨fun i u hu => ?_, h.d, by simp [Act.put, h.z]⟩
  rw [List.lookup_cons] at hu
  have hz := h.z
  cases e : (i == d) with
  | true =>
    rw [e] at hu
    have : i = d := by simpa using e
    subst this
    cases hu
    exact ⟨by simp [Act.put, hz, hd], hx⟩
  | false =>
    rw [e] at hu
    have hne : i ≠ d := by simpa using e
    have := h.g i u hu
    refine ⟨?_, this.2⟩
    have := this.1
    simp [Act.put, Ne.symm hne] at this ⊢
    exact this
/-- A slot told anew. -/
theorem Fr.same {n : Nat} {bs : List Blk} {s : List (Nat × SV)} {a : Act} (h : Fr n bs s a) (d : Nat) (x y : SV) (e : s.lookup d = some y) (he : x.den bs = y.den bs) (hx : okB bs.length x = true) : Fr n bs ((d, x) :: s) a := by
  refine ⟨fun i u hu => ?_, h.d, h.z⟩
  rw [List.lookup_cons] at hu
  cases e' : (i == d) with
  | true =>
    rw [e'] at hu
    have : i = d := by simpa using e'
    subst this
    cases hu
    exact ⟨by rw [he]; exact (h.g i y e).1, hx⟩
  | false => rw [e'] at hu; exact h.g i u hu
theorem Fr.more {n : Nat} {bs : List Blk} {s : List (Nat × SV)} {a : Act} (h : Fr n bs s a) (nb : List Blk) : Fr n (bs ++ nb) s a := by
  refine ⟨fun i u hu => ?_, h.d, h.z⟩
  obtain ⟨h1, h2⟩ := h.g i u hu
  exact ⟨by rw [den_app h2]; exact h1, okB_mono (by rw [List.length_append]; omega) h2⟩
section
variable {C : Cx} {bs bs' : List Blk} {st : SS} {a : Act} {w w' : World}
theorem At.put {d : Nat} {x : SV} (A : At C bs st a w) (hd : d < C.n) (hx : okB bs.length x = true) : At C bs ⟨(d, x) :: st.s, st.b, st.m⟩ (a.put (some d) (x.den bs)) w := ⟨A.f.put d x hd hx, A.b, A.m, A.t, A.n, A.y, A.p⟩
theorem At.same {d : Nat} {x y : SV} (A : At C bs st a w) (e : st.s.lookup d = some y) (he : x.den bs = y.den bs) (hx : okB bs.length x = true) : At C bs ⟨(d, x) :: st.s, st.b, st.m⟩ a w := ⟨A.f.same d x y e he hx, A.b, A.m, A.t, A.n, A.y, A.p⟩
/-- A step that writes boxes, or lays new ones. -/
theorem At.go {B : List Bx} (A : At C bs st a w) (hb : Bk bs' B w') (t : Stp bs bs' (lvs bs st.b) w w') (hn : ∀ k X, live bs' B k = some X → (∃ j, live bs st.b j = some X) ∨ w.heap.size ≤ X) : At C bs' ⟨st.s, B, st.m⟩ a w' := by
  obtain ⟨nb, rfl⟩ := t.n
  refine ⟨A.f.more nb, hb, fun x hx => (A.m x hx).on t.bl.size t.k hn, ⟨A.t.bl.trans t.bl, fun k hk hS => ?_⟩, fun k X hX => ?_, A.y, ?_⟩
  · rw [t.k k (Nat.lt_of_lt_of_le hk A.t.bl.size) (fun hm => ?_)]
    · exact A.t.k k hk hS
    · obtain ⟨j, hj⟩ := mem_lvs.1 hm
      rcases A.n j k hj with h | h
      · exact hS h
      · omega
  · rcases hn k X hX with ⟨j, hj⟩ | h
    · exact A.n j X hj
    · exact .inr (Nat.le_trans A.t.bl.size h)
  · obtain ⟨nb', hnb⟩ := A.p
    exact ⟨nb' ++ nb, by rw [hnb, List.append_assoc]⟩
theorem At.keep (A : At C bs st a w) (h : Below w.heap.size w w') : At C bs st a w' := A.go (A.b.below h) (Stp.below h) fun k _ hX => .inl ⟨k, hX⟩
theorem At.more (A : At C bs st a w) {ms : List Mf} (h : ∀ x ∈ ms, Lies C.Z bs st.b w x) : At C bs ⟨st.s, st.b, ms ++ st.m⟩ a w := ⟨A.f, A.b, fun x hx => (List.mem_append.1 hx).elim (h x) (A.m x), A.t, A.n, A.y, A.p⟩
theorem At.fact (A : At C bs st a w) (i : Nat) (x : Mf) (h : st.m[i]? = some x) : Lies C.Z bs st.b w x := A.m x (List.mem_of_getElem? h)
/-- A box more, in new memory. -/
theorem At.newB {b : Blk} {x : Bx} (A : At C bs st a w) (h : Below w.heap.size w w') (hx : Bx.at w' (bs ++ [b]) b x) (hok : okX (bs.length + 1) x = true) (hn : ∀ X, x.bl b = some X → w.heap.size ≤ X) : At C (bs ++ [b]) ⟨st.s, st.b ++ [x], st.m⟩ a w' :=
  A.go ((A.b.below h).more hx hok fun X hX k hk => by have := A.b.lt hk; have := hn X hX; omega) (Stp.newB _ h) fun k X hX => by
    rcases live_more A.b.l hX with ⟨_, h1⟩ | ⟨_, h1⟩
    · exact .inl ⟨k, h1⟩
    · exact .inr (hn X h1)
/-- New memory that is a box of cells. -/
theorem At.alloc (A : At C bs st a w) (l : List SV) (hl : okL bs.length l = true) (T : TypeId) : At C (bs ++ [⟨some w.heap.size, 0⟩]) ⟨st.s, st.b ++ [.cells l], st.m⟩ a (w.alloc (.cells (denL bs l).toArray T)) :=
  A.newB (alloc_below _ _) ⟨⟨w.heap.size, rfl, by rw [denL_app hl]; exact BoxL.made w T _⟩⟩ (okL_mono (Nat.le_succ _) hl) fun X hX => by cases hX; exact Nat.le_refl _
end
end Ev
end Go.Proofs.Ytkjpbjgepnbibaa
