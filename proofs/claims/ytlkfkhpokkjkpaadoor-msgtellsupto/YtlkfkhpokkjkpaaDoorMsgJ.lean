/- Walks of read and Parse. -/
import Derived.Test.YtlkfkhpokkjkpaaDoorMsgI
namespace Go.Proofs.YtlkfkhpokkjkpaaDoor
open Go.RowKit

/-- One cell has been written, and nothing else. -/
structure Upd (b : Nat) (v : Value) (w w' : World) : Prop where
  os : w'.os = w.os
  tape : w'.tape = w.tape
  output : w'.output = w.output
  size : w'.heap.size = w.heap.size
  at0 : w'.cell? ⟨b, 0, none⟩ = some v
  other : ∀ k, k ≠ b → w'.heap[k]? = w.heap[k]?
  frz : ∀ j, w'.frozen? ⟨b, j, none⟩ = w.frozen? ⟨b, j, none⟩

theorem Upd.cell {b : Nat} {v : Value} {w w' : World} (h : Upd b v w w') (k j : Nat) (hk : k ≠ b) : w'.cell? ⟨k, j, none⟩ = w.cell? ⟨k, j, none⟩ := World.cell?_of_block (w := w) (h.other k hk)
theorem Upd.frozen {b : Nat} {v : Value} {w w' : World} (h : Upd b v w w') (k j : Nat) (hk : k ≠ b) : w'.frozen? ⟨k, j, none⟩ = w.frozen? ⟨k, j, none⟩ := World.frozen?_of_block (w := w) (h.other k hk)
theorem Upd.below {b B : Nat} {v : Value} {w w' : World} (h : Upd b v w w') (hb : B ≤ b) : Below B w w' :=
  ⟨h.os, h.tape, h.output, by rw [h.size]; exact Nat.le_refl _, fun k hk => h.other k (by omega)⟩
theorem Upd.owns {b : Nat} {u : Value} {w w' : World} (h : Upd b u w w') {base : Nat} {e : TypeId} {size : Nat} {v : Value} {n : Nat} {xs : List Value} (ho : w.ownsRow base e size v n xs) (hb : b < base) : w'.ownsRow base e size v n xs := by
  refine ⟨ho.1, ?_⟩
  rcases ho.2 with h2 | ⟨g, cap, cur, hv, hg, hh, r⟩
  · exact .inl h2
  · exact .inr ⟨g, cap, cur, hv, hg, by rw [h.other g (by omega)]; exact hh, r⟩

theorem upd_set {b : Nat} {v u : Value} {w : World} (h : w.cell? ⟨b, 0, none⟩ = some u) (n : Nat) : Upd b v w ((w.drewN n).setCell ⟨b, 0, none⟩ v) :=
  ⟨rfl, rfl, rfl, by simp, World.cell?_setCell_same (w.drewN n) _ _ (u := u) (by simpa using h), fun k hk => by rw [Below.heap_setCell _ _ _ _ hk]; rfl, fun j => by simp⟩

set_option maxHeartbeats 400000 in
theorem next_any (b : Nat) (rest : ByteArray) (w : World) (hc : w.cell? ⟨b, 0, none⟩ = some (.string rest)) (hf : w.frozen? ⟨b, 0, none⟩ = false) (hs : rest.size ≤ 281474976710656) :
    Calls Tryd.prog 60 #[.pointer (some ⟨b, 0, none⟩)] w fun e w' => e = .returned (.tuple #[.string (B (cutL 10 rest.data.toList).1), .bool (cutL 10 rest.data.toList).2.2]) ∧ Upd b (.string (B (cutL 10 rest.data.toList).2.1)) w w' := by
  have HS : Hid (rest.size ≤ 281474976710656) := hs
  clear hs
  go_enter Tryd.func60, Tryd.ntmps60
  go_wp2_with (go_at_call 61; refine (cut_any rest 10 _ HS.out).mono ?_; rintro e w' ⟨rfl, n, rfl⟩)
  go_ret2
  exact ⟨rfl, upd_set hc n⟩

/-- What the lines behind the first one are. -/
def readH : Nat → List UInt8 → List Hd → Option (List Hd × List UInt8)
  | 0, _, _ => none
  | f + 1, rest, hs =>
    if (cutL 10 rest).2.2 = false then none
    else if (cutL 10 rest).1 = [] then some (hs, (cutL 10 rest).2.1)
    else if (cutL 61 (cutL 10 rest).1).2.2 = false then none
    else readH f (cutL 10 rest).2.1 (if hs.length ≤ 6 then hs ++ [(B (cutL 61 (cutL 10 rest).1).1, B (cutL 61 (cutL 10 rest).1).2.1)] else hs)
theorem cutL_len (c : UInt8) : ∀ l : List UInt8, (cutL c l).2.1.length ≤ l.length ∧ ((cutL c l).2.2 = true → (cutL c l).2.1.length < l.length) ∧ (cutL c l).1.length ≤ l.length
  | [] => by simp [cutL]
  | b :: t => by
    by_cases e : b = c
    · simp [cutL, e]
    · have := cutL_len c t
      simp [cutL, e]
      omega
theorem readH_fuel : ∀ (f g : Nat) (rest : List UInt8) (hs : List Hd), rest.length < f → rest.length < g → readH f rest hs = readH g rest hs
  | 0, _, _, _, h, _ => absurd h (by omega)
  | _, 0, _, _, _, h => absurd h (by omega)
  | f + 1, g + 1, rest, hs, h1, h2 => by
    unfold readH
    by_cases c1 : (cutL 10 rest).2.2 = false
    · rw [if_pos c1, if_pos c1]
    · have hl := (cutL_len 10 rest).2.1 (by simpa using c1)
      rw [if_neg c1, if_neg c1]
      rw [readH_fuel f g _ _ (by omega) (by omega)]
def readR (rest : List UInt8) (hs : List Hd) : Option (List Hd × List UInt8) := readH (rest.length + 1) rest hs
theorem readR_eq (rest : List UInt8) (hs : List Hd) : readR rest hs =
    if (cutL 10 rest).2.2 = false then none
    else if (cutL 10 rest).1 = [] then some (hs, (cutL 10 rest).2.1)
    else if (cutL 61 (cutL 10 rest).1).2.2 = false then none
    else readR (cutL 10 rest).2.1 (if hs.length ≤ 6 then hs ++ [(B (cutL 61 (cutL 10 rest).1).1, B (cutL 61 (cutL 10 rest).1).2.1)] else hs) := by
  conv => lhs; unfold readR readH
  by_cases c1 : (cutL 10 rest).2.2 = false
  · rw [if_pos c1, if_pos c1]
  · have hl := (cutL_len 10 rest).2.1 (by simpa using c1)
    rw [if_neg c1, if_neg c1]
    unfold readR
    rw [readH_fuel rest.length ((cutL 10 rest).2.1.length + 1) _ _ (by omega) (by omega)]
/-- What read takes a text for. -/
def readL (s : List UInt8) : Option Ms :=
  match firstL (cutL 10 s).1 with
  | none => none
  | some (st, p) => if (cutL 10 s).2.2 then (readR (cutL 10 s).2.1 []).map fun x => { st := st, path := B p, heads := x.1, body := B x.2 } else none

def lenAt (w : World) (b : Nat) : Nat := match w.cell? ⟨b, 0, none⟩ with | some (.string s) => s.size | _ => 0
theorem lenAt_of {w : World} {b : Nat} {s : ByteArray} (h : w.cell? ⟨b, 0, none⟩ = some (.string s)) : lenAt w b = s.size := by rw [lenAt, h]

/-- Where read stands between two lines. -/
structure ReadMid (w wr : World) (M : Nat) (st : Int) (p : List UInt8) (rest : ByteArray) (hs : List Hd) (ao : Option Addr) (c : Nat) : Prop where
  r : wr.cell? ⟨w.heap.size + 1, 0, none⟩ = some (.string rest)
  rf : wr.frozen? ⟨w.heap.size + 1, 0, none⟩ = false
  m0 : wr.cell? ⟨M, 0, none⟩ = some (.int .i64 st)
  m1 : wr.cell? ⟨M, 1, none⟩ = some (.string (B p))
  m2 : wr.cell? ⟨M, 2, none⟩ = some (.slice ao hs.length c)
  m3 : wr.cell? ⟨M, 3, none⟩ = some (.slice none 0 0)
  mf : ∀ j, wr.frozen? ⟨M, j, none⟩ = false
  z0 : wr.cell? ⟨w.heap.size, 0, none⟩ = some (.int .i64 0)
  z1 : wr.cell? ⟨w.heap.size, 1, none⟩ = some (.string ⟨#[]⟩)
  z2 : wr.cell? ⟨w.heap.size, 2, none⟩ = some (.slice none 0 0)
  z3 : wr.cell? ⟨w.heap.size, 3, none⟩ = some (.slice none 0 0)
  zf : ∀ j, wr.frozen? ⟨w.heap.size, j, none⟩ = false
  ow : wr.ownsRow (M + 1) 52 2 (.slice ao hs.length c) hs.length (hcells hs)
  bl : Below w.heap.size w wr
  lo : w.heap.size + 2 ≤ M
  hi : M < wr.heap.size

theorem ReadMid.upd {w wr w2 : World} {M : Nat} {st : Int} {p : List UInt8} {rest rest' : ByteArray} {hs : List Hd} {ao : Option Addr} {c : Nat} (h : ReadMid w wr M st p rest hs ao c) (u : Upd (w.heap.size + 1) (.string rest') wr w2) : ReadMid w w2 M st p rest' hs ao c := by
  have := h.lo
  exact ⟨u.at0, by rw [u.frz]; exact h.rf, by rw [u.cell _ _ (by omega)]; exact h.m0, by rw [u.cell _ _ (by omega)]; exact h.m1, by rw [u.cell _ _ (by omega)]; exact h.m2, by rw [u.cell _ _ (by omega)]; exact h.m3,
    fun j => by rw [u.frozen _ _ (by omega)]; exact h.mf j, by rw [u.cell _ _ (by omega)]; exact h.z0, by rw [u.cell _ _ (by omega)]; exact h.z1, by rw [u.cell _ _ (by omega)]; exact h.z2, by rw [u.cell _ _ (by omega)]; exact h.z3,
    fun j => by rw [u.frozen _ _ (by omega)]; exact h.zf j, u.owns h.ow (by omega), h.bl.trans (u.below (by omega)), h.lo, by rw [u.size]; exact h.hi⟩
theorem ReadMid.keep {w wr w2 : World} {M : Nat} {st : Int} {p : List UInt8} {rest : ByteArray} {hs : List Hd} {ao : Option Addr} {c : Nat} (h : ReadMid w wr M st p rest hs ao c) (b : Below wr.heap.size wr w2) : ReadMid w w2 M st p rest hs ao c := by
  have h1 := h.lo
  have h2 := h.hi
  have cc := fun k j (hk : k < wr.heap.size) => b.cell (p := ⟨k, j, none⟩) hk
  have cf := fun k j (hk : k < wr.heap.size) => b.frozen (p := ⟨k, j, none⟩) hk
  have := b.size
  exact ⟨by rw [cc _ _ (by omega)]; exact h.r, by rw [cf _ _ (by omega)]; exact h.rf, by rw [cc _ _ (by omega)]; exact h.m0, by rw [cc _ _ (by omega)]; exact h.m1, by rw [cc _ _ (by omega)]; exact h.m2, by rw [cc _ _ (by omega)]; exact h.m3,
    fun j => by rw [cf _ _ (by omega)]; exact h.mf j, by rw [cc _ _ (by omega)]; exact h.z0, by rw [cc _ _ (by omega)]; exact h.z1, by rw [cc _ _ (by omega)]; exact h.z2, by rw [cc _ _ (by omega)]; exact h.z3,
    fun j => by rw [cf _ _ (by omega)]; exact h.zf j, owns_below h.ow b, h.bl.trans (b.mono (by omega)), h.lo, by omega⟩

theorem ReadMid.grow {w w5 w6 : World} {M : Nat} {st : Int} {p : List UInt8} {rest : ByteArray} {hs : List Hd} {ao : Option Addr} {c : Nat} {o : Obj} {g cap : Nat} {k t : ByteArray} (h : ReadMid w w5 M st p rest hs ao c)
    (gr : (w5.alloc o).grownBy w6 (Value.slice ao hs.length c).ownBlock) (own : w6.ownsRow (M + 1) 52 2 (.slice (some ⟨g, 0, none⟩) (hs.length + 1) cap) (hs.length + 1) (hcells hs ++ [.string k, .string t])) :
    ReadMid w (w6.setCell ⟨M, 2, none⟩ (.slice (some ⟨g, 0, none⟩) (hs.length + 1) cap)) M st p rest (hs ++ [(k, t)]) (some ⟨g, 0, none⟩) cap := by
  have h1 := h.lo
  have h2 := h.hi
  have b : Below (M + 1) w5 w6 := ⟨gr.os, gr.tape, gr.output, Nat.le_trans (by simp) gr.size, fun k hk => (gr.block k (by simp; omega) (fun e => by have := (h.ow.lt k e.symm).1; omega)).trans (Below.heap_alloc _ _ _ (by omega))⟩
  have cc := fun k j (hk : k < M + 1) => b.cell (p := ⟨k, j, none⟩) hk
  have cf := fun k j (hk : k < M + 1) => b.frozen (p := ⟨k, j, none⟩) hk
  have sc := fun k j (hk : k ≠ M) => World.cell?_of_block (w := w6) (w' := w6.setCell ⟨M, 2, none⟩ (.slice (some ⟨g, 0, none⟩) (hs.length + 1) cap)) (a := ⟨k, j, none⟩) (Below.heap_setCell _ _ _ _ hk)
  have sf := fun k j (hk : k ≠ M) => World.frozen?_of_block (w := w6) (w' := w6.setCell ⟨M, 2, none⟩ (.slice (some ⟨g, 0, none⟩) (hs.length + 1) cap)) (a := ⟨k, j, none⟩) (Below.heap_setCell _ _ _ _ hk)
  have so := fun j (hj : j ≠ 2) => World.cell?_setCell_other w6 ⟨M, 2, none⟩ ⟨M, j, none⟩ (.slice (some ⟨g, 0, none⟩) (hs.length + 1) cap) (fun e => hj (by injection e with _ e2; exact e2.symm))
  have hl : (hs ++ [(k, t)]).length = hs.length + 1 := by simp
  have bs := b.size
  refine ⟨?_, ?_, ?_, ?_, ?_, ?_, ?_, ?_, ?_, ?_, ?_, ?_, ?_, ?_, h1, ?_⟩
  · rw [sc _ _ (by omega), cc _ _ (by omega)]; exact h.r
  · rw [sf _ _ (by omega), cf _ _ (by omega)]; exact h.rf
  · rw [so 0 (by omega), cc _ _ (by omega)]; exact h.m0
  · rw [so 1 (by omega), cc _ _ (by omega)]; exact h.m1
  · rw [hl]; exact World.cell?_setCell_same w6 _ _ (u := .slice ao hs.length c) (by rw [cc _ _ (by omega)]; exact h.m2)
  · rw [so 3 (by omega), cc _ _ (by omega)]; exact h.m3
  · intro j; simp only [World.frozen?_setCell]; rw [cf _ _ (by omega)]; exact h.mf j
  · rw [sc _ _ (by omega), cc _ _ (by omega)]; exact h.z0
  · rw [sc _ _ (by omega), cc _ _ (by omega)]; exact h.z1
  · rw [sc _ _ (by omega), cc _ _ (by omega)]; exact h.z2
  · rw [sc _ _ (by omega), cc _ _ (by omega)]; exact h.z3
  · intro j; rw [sf _ _ (by omega), cf _ _ (by omega)]; exact h.zf j
  · rw [hl, hcells_append]; exact ownsRow_setCell_below own (by show M < M + 1; omega) _
  · exact (h.bl.trans (b.mono (by omega))).setCell (by show w.heap.size ≤ M; omega) _
  · simp; omega

theorem BytesAt.set {w : World} {ao : Option Addr} {bs : ByteArray} (h : BytesAt w ao bs) (a : Addr) (u : Value) (ha : ∀ b off, ao = some ⟨b, off, none⟩ → b ≠ a.block) : BytesAt (w.setCell a u) ao bs where
  lies i hi := by
    obtain ⟨b, off, h1, h2, h3⟩ := h.lies i hi
    refine ⟨b, off, h1, by simpa using h2, ?_⟩
    rw [World.cell?_of_block (w := w) (a := ⟨b, off + i, none⟩) (Below.heap_setCell w a u b (ha b off h1))]; exact h3
  plain := h.plain
  small := h.small
theorem bytesAt_new (w : World) (s : ByteArray) (hs : s.size ≤ maxLen) : BytesAt (Lib.bytesWorld w 5 s) (some ⟨w.heap.size, 0, none⟩) s where
  lies i hi := by
    refine ⟨w.heap.size, 0, rfl, by rw [Lib.bytesWorld_size]; omega, ?_⟩
    rw [Nat.zero_add, Lib.bytesWorld_cell w 5 s i hi]
    have h' : i < s.data.toList.length := by simpa using hi
    simp [List.getD, hi]
    rfl
  plain := .inr (.inl ⟨_, _, rfl⟩)
  small := hs

/-- A message's value whose lists lie from a block on. -/
def From (base : Nat) (v : Value) : Prop := ∃ x y ao n c bo k d, v = .agg #[x, y, .slice ao n c, .slice bo k d] ∧ (∀ a, ao = some a → base ≤ a.block) ∧ (∀ a, bo = some a → base ≤ a.block)
theorem HeadsAt.set {w : World} {ao : Option Addr} {hs : List Hd} (h : HeadsAt w ao hs) (a : Addr) (u : Value) (ha : ∀ x, ao = some x → x.block ≠ a.block) : HeadsAt (w.setCell a u) ao hs where
  lies i hi := by
    obtain ⟨b, off, h1, h2, h3, h4⟩ := h.lies i hi
    have hb := ha _ h1
    refine ⟨b, off, h1, by simpa using h2, ?_, ?_⟩
    · rw [World.cell?_of_block (w := w) (a := ⟨b, off + i * 2, none⟩) (Below.heap_setCell w a u b hb)]; exact h3
    · rw [World.cell?_of_block (w := w) (a := ⟨b, off + i * 2 + 1, none⟩) (Below.heap_setCell w a u b hb)]; exact h4
  small := h.small
  size := h.size
theorem MsAt.low {w : World} {v : Value} {m : Ms} {base : Nat} (h : MsAt w v m) (hf : From base v) {a : Addr} (ha : a.block < base) (u : Value) : MsAt (w.setCell a u) v m := by
  obtain ⟨⟨ao, c, bo, d, rfl, h1, h2, h3⟩, h4, h5⟩ := h
  obtain ⟨x, y, ao', n, c', bo', k, d', e, f1, f2⟩ := hf
  simp only [Value.agg.injEq, Array.mk.injEq, List.cons.injEq, Value.slice.injEq, and_true] at e
  obtain ⟨_, _, ⟨rfl, _⟩, ⟨rfl, _⟩⟩ := e
  refine ⟨⟨ao, c, bo, d, rfl, h1.set a u fun x hx => ?_, h2.set a u fun b off hx => ?_, h3⟩, h4, h5⟩
  · have := f1 x hx; omega
  · have := f2 _ hx; simp at this; omega

set_option maxRecDepth 100000 in
set_option maxHeartbeats 1000000 in
theorem read_any (s : ByteArray) (w : World) (hs : s.size ≤ 140737488351232) (hg : Glob w) (R : Option Ms) (hR : readL s.data.toList = R) :
    Calls Tryd.prog 49 #[.string s] w fun e w' => (R = none ∧ e = .returned (.tuple #[msgV 0 [], .bool false]) ∨ ∃ m v, R = some m ∧ e = .returned (.tuple #[v, .bool true]) ∧ MsAt w' v m ∧ From w.heap.size v) ∧ Below w.heap.size w w' := by
  have HS : Hid (s.size ≤ 140737488351232) := hs
  have HS2 : Hid (s.size ≤ 281474976710656) := by show s.size ≤ _; omega
  clear hs
  have HR : Hid (readL s.data.toList = R) := hR
  clear hR
  have hbw : ∀ o o' : Obj, Below w.heap.size w ((w.alloc o).alloc o') := fun o o' => ((Below.refl _ _).alloc (Nat.le_refl _) _).alloc (by simp) _
  go_enter Tryd.func49, Tryd.ntmps49
  go_wp2_with fail
  refine (next_any (w.heap.size + 1) s _ (by simp) (by simp) HS2.out).mono ?_
  rintro e w1 ⟨rfl, u1⟩
  obtain ⟨l0, r0, e0, hL⟩ : ∃ l0 r0 e0, cutL 10 s.data.toList = (l0, r0, e0) := ⟨_, _, _, rfl⟩
  have hlen := cutL_len 10 s.data.toList
  rw [hL] at u1 hlen ⊢
  have HL : Hid (cutL 10 s.data.toList = (l0, r0, e0)) := hL
  clear hL
  simp only at u1 hlen ⊢
  have HL0 : Hid (l0.length ≤ 140737488351232 ∧ r0.length ≤ 140737488351232) := by
    have h1 := HS.out
    have h2 : s.data.toList.length = s.size := by simp
    show _ ∧ _
    omega
  clear hlen
  have bl1 : Below w.heap.size w w1 := (hbw _ _).trans (u1.below (by omega))
  have hz1 := fun j => u1.cell w.heap.size j (by omega)
  have hzf1 := fun j => u1.frozen w.heap.size j (by omega)
  have hr1 := u1.at0
  have hrf1 := u1.frz 0
  have hsz1 := u1.size
  simp at hsz1
  clear u1
  go_wp2_with fail
  refine (first_any (B l0) _ (by rw [B_size]; have := HL0.out; omega) (hg.below bl1)).mono ?_
  rintro e w2 ⟨rfl, b2⟩
  rw [B_data]
  have hz2 := fun j => (b2.cell (p := ⟨w.heap.size, j, none⟩) (by show w.heap.size < _; omega)).trans (hz1 j)
  have hzf2 := fun j => (b2.frozen (p := ⟨w.heap.size, j, none⟩) (by show w.heap.size < _; omega)).trans (hzf1 j)
  have hr2 := (b2.cell (p := ⟨w.heap.size + 1, 0, none⟩) (by show w.heap.size + 1 < _; omega)).trans hr1
  have hrf2 := (b2.frozen (p := ⟨w.heap.size + 1, 0, none⟩) (by show w.heap.size + 1 < _; omega)).trans hrf1
  have hsz2 := b2.size
  have bl2 : Below w.heap.size w w2 := bl1.trans (b2.mono (by omega))
  have hlt2 : w.heap.size < w2.heap.size := by omega
  have hlt3 : w.heap.size + 1 < w2.heap.size := by omega
  clear b2 bl1 hz1 hzf1 hr1 hrf1 hsz1 hsz2
  cases hf : firstL l0 with
  | none =>
    have HN : Hid (R = none) := by show R = none; rw [← HR.out, readL, HL.out]; simp [hf]
    cases e0
    all_goals
      simp only [msgV]
      go_wp2
      refine bodyPost_ret (v := .tuple #[msgV 0 [], .bool false]) (by simp [results, Tryd.results49, go_sem, msgV, B, hz2, hlt2]) rfl ⟨.inl ⟨HN.out, rfl⟩, ?_⟩
      refine Below.alloc ?_ (by simp; omega) _
      iterate 4 (refine Below.setCell ?_ (by simp) _)
      exact bl2
  | some q =>
    obtain ⟨st, p⟩ := q
    cases e0 with
    | false =>
      have HN : Hid (R = none) := by show R = none; rw [← HR.out, readL, HL.out]; simp [hf]
      simp only [msgV]
      go_wp2
      refine bodyPost_ret (v := .tuple #[msgV 0 [], .bool false]) (by simp [results, Tryd.results49, go_sem, msgV, B, hz2, hlt2]) rfl ⟨.inl ⟨HN.out, rfl⟩, ?_⟩
      refine Below.alloc ?_ (by simp; omega) _
      iterate 4 (refine Below.setCell ?_ (by simp) _)
      exact bl2
    | true =>
      have HN : Hid (R = (readR r0 []).map fun x => { st := st, path := B p, heads := x.1, body := B x.2 }) := by show R = _; rw [← HR.out, readL, HL.out]; simp [hf]
      have HP : Hid ((B p).size ≤ 140737488351232) := by
        show (B p).size ≤ _
        have h1 := HL0.out.1
        have h2 : p.length ≤ l0.length := by
          unfold firstL at hf
          by_cases c1 : Lib.hasPrefix l0 [97, 115, 107, 32] = true
          · rw [if_pos c1] at hf
            simp only [Option.some.injEq, Prod.mk.injEq] at hf
            rw [← hf.2]; simp
          · rw [if_neg c1] at hf
            by_cases c2 : Lib.hasPrefix l0 [115, 97, 121, 32] = true
            · rw [if_pos c2] at hf
              obtain ⟨n, _, hn⟩ := Option.map_eq_some_iff.1 hf
              simp only [Prod.mk.injEq] at hn
              rw [← hn.2]; simp
            · rw [if_neg c2] at hf; cases hf
        rw [B_size]; omega
      simp only [msgV]
      go_wp2
      obtain ⟨M, hM⟩ : ∃ M, w2.heap.size = M := ⟨_, rfl⟩
      have mid : ReadMid w (w2.alloc (.cells #[.int .i64 st, .string (B p), .slice none 0 0, .slice none 0 0] 25)) M st p (B r0) [] none 0 := by
        have ab : Below w2.heap.size w2 (w2.alloc (.cells #[.int .i64 st, .string (B p), .slice none 0 0, .slice none 0 0] 25)) := (Below.refl _ _).alloc (Nat.le_refl _) _
        have cc := fun k j (hk : k < w2.heap.size) => ab.cell (p := ⟨k, j, none⟩) hk
        have cf := fun k j (hk : k < w2.heap.size) => ab.frozen (p := ⟨k, j, none⟩) hk
        subst hM
        refine ⟨?_, ?_, by simp, by simp, by simp, by simp, fun j => by simp, ?_, ?_, ?_, ?_, ?_, World.ownsRow_nil _ _ _ _, bl2.alloc (by omega) _, by omega, by simp⟩
        · rw [cc _ _ hlt3]; exact hr2
        · rw [cf _ _ hlt3, hrf2]; simp
        · rw [cc _ _ hlt2, hz2]; simp
        · rw [cc _ _ hlt2, hz2]; simp
        · rw [cc _ _ hlt2, hz2]; simp
        · rw [cc _ _ hlt2, hz2]; simp
        · intro j; rw [cf _ _ hlt2, hzf2]; simp
      rw [hM]
      clear hM hz2 hzf2 hr2 hrf2 bl2 hlt2 hlt3 hbw
      go_loopw [6] (fun _ wr => ∃ rest hs ao c, ReadMid w wr M st p rest hs ao c ∧ Hid (rest.size ≤ 140737488351232 ∧ hs.length ≤ 7 ∧ readR rest.data.toList hs = readR r0 [] ∧ ∀ h ∈ hs, h.1.size ≤ 140737488351232 ∧ h.2.size ≤ 140737488351232)) (fun _ wr => lenAt wr (w.heap.size + 1))
      case atStart => exact ⟨B r0, [], none, 0, mid, by rw [B_size]; exact HL0.out.2, by simp, by rw [B_data], by simp⟩
      case round =>
        clear mid
        obtain ⟨rest, hs, ao, c, mid, HH⟩ := hrel
        have HZ : Hid (rest.size ≤ 281474976710656) := by show _ ≤ _; have := HH.out.1; omega
        go_wp2_with fail
        refine (next_any (w.heap.size + 1) rest _ mid.r mid.rf HZ.out).mono ?_
        rintro e w4 ⟨rfl, u4⟩
        obtain ⟨l, r, en, hC⟩ : ∃ l r en, cutL 10 rest.data.toList = (l, r, en) := ⟨_, _, _, rfl⟩
        have hlen := cutL_len 10 rest.data.toList
        rw [hC] at u4 hlen ⊢
        have HC : Hid (cutL 10 rest.data.toList = (l, r, en)) := hC
        clear hC
        simp only at u4 hlen ⊢
        have HL1 : Hid (l.length ≤ rest.size ∧ r.length ≤ rest.size ∧ (en = true → r.length < rest.size)) := by
          have h2 : rest.data.toList.length = rest.size := by simp
          rw [h2] at hlen
          exact ⟨hlen.2.2, hlen.1, hlen.2.1⟩
        clear hlen
        have md := mid.upd u4
        have hln : Hid (lenAt wr (w.heap.size + 1) = rest.size) := lenAt_of mid.r
        clear u4 mid
        obtain ⟨mr, mrf, m0, m1, m2, m3, mf, z0, z1, z2, z3, zf, mow, mbl, mlo, mhi⟩ := md
        have md : Hid (ReadMid w w4 M st p (B r) hs ao c) := ⟨mr, mrf, m0, m1, m2, m3, mf, z0, z1, z2, z3, zf, mow, mbl, mlo, mhi⟩
        have ne1 : ¬ M = w.heap.size := by omega
        have ne2 : ¬ M = w.heap.size + 1 := by omega
        have ne3 : ¬ w.heap.size = M := by omega
        cases en with
        | false =>
          go_wp2
          refine bodyPost_ret (v := .tuple #[msgV 0 [], .bool false]) (by simp [results, Tryd.results49, go_sem, msgV, B, z0, z1, z2, z3]) rfl ⟨.inl ⟨?_, rfl⟩, ?_⟩
          · rw [HN.out, ← HH.out.2.2.1, readR_eq, HC.out]; simp
          · iterate 4 (refine Below.setCell ?_ (by simp) _)
            exact mbl
        | true =>
          by_cases hl : l = []
          · subst hl
            have q1 : (B []).toList.isEmpty = true := by rw [toList_eq, B_data]; rfl
            have hcv := Lib.run_convert_string_bytes (P := Tryd.prog) w4 9 23 5 (B r) Tryd.underlying9 Tryd.underlying23 Tryd.underlying5
            have HBS : Hid ((B r).size ≤ 140737488351232) := by show (B r).size ≤ _; rw [B_size]; have h1 := HL1.out.2.1; have h2 := HH.out.1; omega
            obtain ⟨w5, hw5⟩ : ∃ w5, Lib.bytesWorld w4 5 (B r) = w5 := ⟨_, rfl⟩
            obtain ⟨cap, hcap⟩ : ∃ cap, grownCap w4 (B r).size 0 5 = cap := ⟨_, rfl⟩
            rw [hw5, hcap] at hcv
            have b5 : Below w4.heap.size w4 w5 := by rw [← hw5]; exact below_bytes _ _
            have BY : Hid (BytesAt w5 (some ⟨w4.heap.size, 0, none⟩) (B r)) := by
              show BytesAt _ _ _
              rw [← hw5]; exact bytesAt_new w4 (B r) (by unfold maxLen; have := HBS.out; omega)
            have MD : Hid (ReadMid w w5 M st p (B r) hs ao c) := md.out.keep b5
            have h4 : Hid (M < w4.heap.size) := mhi
            clear hw5 hcap mrf m0 m1 m2 m3 mf z0 z1 z2 z3 zf mow mbl mlo mhi md b5
            obtain ⟨_, _, m0, m1, m2, m3, mf, z0, z1, z2, z3, zf, mow, mbl, mlo, mhi⟩ := MD.out
            have OW : Hid (w5.ownsRow (M + 1) 52 2 (.slice ao hs.length c) hs.length (hcells hs)) := mow
            clear mow
            go_wp2
            refine bodyPost_ret (v := .tuple #[.agg #[.int .i64 st, .string (B p), .slice ao hs.length c, .slice (some ⟨w4.heap.size, 0, none⟩) (B r).size cap], .bool true]) ?_ rfl ⟨.inr ⟨⟨st, B p, hs, B r⟩, ?_, _, rfl, ?_, ?_⟩, ?_⟩
            · simp [results, Tryd.results49, go_sem, z0, z1, z2, z3]
            · rw [HN.out, ← HH.out.2.2.1, readR_eq, HC.out]; simp
            · have hcap2 : hs.length ≤ c ∧ c ≤ maxLen := by
                rcases OW.out.2 with ⟨hv, h0⟩ | ⟨g, cap, cur, hv, _, _, h5, h6, _⟩
                · simp only [Value.slice.injEq] at hv; rw [h0, hv.2.2]; unfold maxLen; omega
                · simp only [Value.slice.injEq, true_and] at hv; rw [hv.2]; exact ⟨h5, h6⟩
              have hnil : ao = none → c = 0 := by
                intro e
                rcases OW.out.2 with ⟨hv, _⟩ | ⟨g, cap, cur, hv, _⟩
                · simp at hv; exact hv.2.2
                · simp [e] at hv
              refine ⟨⟨ao, c, some ⟨w4.heap.size, 0, none⟩, cap, rfl, headsAt_of_owns (base := M + 1) (c := c) ?_ (by unfold maxLen; have := HH.out.2.1; show hs.length ≤ _; omega) (fun h hh => by have := HH.out.2.2.2 h hh; unfold maxLen; omega), ?_, hnil, (fun e => by cases e), hcap2⟩, ?_, ?_, HBS.out⟩
              · iterate 5 (refine ownsRow_setCell_below ?_ (by simp <;> omega) _)
                exact OW.out
              · repeat (refine BytesAt.set ?_ _ _ (by intro b off e; simp at e; have := h4.out; simp; omega))
                exact BY.out
              · have h1 := HP.out; unfold maxLen; show (B p).size ≤ _; omega
              · have := HH.out.2.1; show hs.length * 32 ≤ _; omega
            · refine ⟨_, _, _, _, _, _, _, _, rfl, ?_, ?_⟩
              · intro a e
                have := (OW.out.lt a.block (by rw [e]; rfl)).1
                omega
              · intro a e
                simp only [Option.some.injEq] at e
                subst e
                have := h4.out
                show w.heap.size ≤ w4.heap.size
                omega
            · repeat (refine Below.setCell ?_ (by simp; try omega) _)
              exact mbl
          · have q1 : (B l).toList.isEmpty = false := by rw [toList_eq, B_data]; simpa using hl
            have HLB : Hid ((B l).size ≤ 281474976710656) := by show (B l).size ≤ _; rw [B_size]; have h1 := HL1.out.1; have h2 := HZ.out; omega
            go_wp2_with fail
            refine (cut_any (B l) 61 _ HLB.out).mono ?_
            rintro e w5 ⟨rfl, nn, hw5⟩
            have b5 : Below w4.heap.size w4 w5 := by rw [hw5]; exact Joins.below_draws _ _ _
            clear hw5
            rw [B_data]
            obtain ⟨kk, tt, ok, hK⟩ : ∃ kk tt ok, cutL 61 l = (kk, tt, ok) := ⟨_, _, _, rfl⟩
            have hlen := cutL_len 61 l
            rw [hK] at hlen ⊢
            have HK : Hid (cutL 61 l = (kk, tt, ok)) := hK
            clear hK
            simp only at hlen ⊢
            have HL2 : Hid ((B kk).size ≤ 140737488351232 ∧ (B tt).size ≤ 140737488351232) := by
              have h1 := HL1.out.1
              have h2 := HH.out.1
              rw [B_size, B_size]
              exact ⟨by omega, by omega⟩
            clear hlen
            have MD : Hid (ReadMid w w5 M st p (B r) hs ao c) := md.out.keep b5
            clear mr mrf m0 m1 m2 m3 mf z0 z1 z2 z3 zf mow mbl mlo mhi md b5
            obtain ⟨mr, mrf, m0, m1, m2, m3, mf, z0, z1, z2, z3, zf, mow, mbl, mlo, mhi⟩ := MD.out
            have HRR : Hid (readR rest.data.toList hs = if ok = false then none else readR r (if hs.length ≤ 6 then hs ++ [(B kk, B tt)] else hs)) := by
              show readR rest.data.toList hs = _
              rw [readR_eq, HC.out]
              simp only [HK.out]
              rw [if_neg (by simp), if_neg hl]
            cases ok with
            | false =>
              go_wp2
              refine bodyPost_ret (v := .tuple #[msgV 0 [], .bool false]) (by simp [results, Tryd.results49, go_sem, msgV, B, z0, z1, z2, z3]) rfl ⟨.inl ⟨?_, rfl⟩, ?_⟩
              · rw [HN.out, ← HH.out.2.2.1, HRR.out]; simp
              · iterate 4 (refine Below.setCell ?_ (by simp) _)
                exact mbl
            | true =>
              by_cases h6 : hs.length ≤ 6
              · have i6 : (hs.length : Int) ≤ 6 := by omega
                obtain ⟨i45, hi45, hz45, hs45, hb45⟩ := info_parts Tryd.info45
                go_wp2_with (at_builtin; refine wpList_append_lies _ rfl (.tmp 60) (.tmp 64) 22 rfl (M + 1) 52 i45 _ 2 32 Tryd.underlying22 hi45 hz45 hs45 hb45 rfl (by decide) (.slice ao hs.length c) hs.length (hcells hs) rfl (MD.out.ow.alloc _) ⟨w5.heap.size, 0, none⟩ 1 1 [.string (B kk), .string (B tt)] rfl rfl ?qnews ?qone (by decide) ?q63 ?qby ?qbase (w5.heap.size + 1) (by simp) ?_)
                case qnews => exact pair_new _ _ _ _
                case qone => intro u hu; simp at hu; rcases hu with rfl | rfl <;> rfl
                case q63 => unfold maxLen; omega
                case qby => omega
                case qbase => simp; omega
                intro g1 cap1 w6 own6 gr6 hor hlt6
                have b6 : Below (M + 1) w5 w6 := ⟨gr6.os, gr6.tape, gr6.output, Nat.le_trans (by simp) gr6.size, fun k hk => (gr6.block k (by simp; omega) (fun e => by have := (mow.lt k e.symm).1; omega)).trans (Below.heap_alloc _ _ _ (by omega))⟩
                have s2 := (b6.cell (p := ⟨M, 2, none⟩) (by show M < M + 1; omega)).trans m2
                have sf := fun j => (b6.frozen (p := ⟨M, j, none⟩) (by show M < M + 1; omega)).trans (mf j)
                have NEW : Hid _ := MD.out.grow gr6 own6
                clear own6 gr6 hor hlt6 b6
                go_wp2
                go_roundw
                case rel =>
                  refine ⟨B r, _, _, _, NEW.out, ?_, ?_, ?_, ?_⟩
                  · rw [B_size]; have h1 := HL1.out.2.1; have h2 := HH.out.1; omega
                  · simp; omega
                  · rw [B_data, ← HH.out.2.2.1, HRR.out, if_pos h6]; simp
                  · intro h hh
                    rcases List.mem_append.1 hh with hh | hh
                    · exact HH.out.2.2.2 h hh
                    · obtain rfl : h = (B kk, B tt) := by simpa using hh
                      exact HL2.out
                case measure =>
                  rw [lenAt_of NEW.out.r, hln.out, B_size]
                  exact HL1.out.2.2 (by trivial)
              · have i6 : ¬ (hs.length : Int) ≤ 6 := by omega
                go_wp2
                go_roundw
                case rel =>
                  refine ⟨B r, hs, ao, c, MD.out, ?_, HH.out.2.1, ?_, HH.out.2.2.2⟩
                  · rw [B_size]; have h1 := HL1.out.2.1; have h2 := HH.out.1; omega
                  · rw [B_data, ← HH.out.2.2.1, HRR.out, if_neg h6]; simp
                case measure =>
                  rw [lenAt_of MD.out.r, hln.out, B_size]
                  exact HL1.out.2.2 (by trivial)

/-- What Parse answers: a message, and what is wrong. -/
def parseE (s : List UInt8) : Int := match readL s with | none => 2 | some m => wrongE m
def msZero : Ms := ⟨0, B [], [], B []⟩
def parseM (s : List UInt8) : Ms := match readL s with | none => msZero | some m => if wrongE m = 0 then m else msZero

theorem msAt_zero (w : World) : MsAt w (.agg #[.int .i64 0, .string ⟨#[]⟩, .slice none 0 0, .slice none 0 0]) msZero where
  lies := ⟨none, 0, none, 0, rfl, ⟨fun i h => absurd h (by simp [msZero]), by simp [msZero], fun h hh => absurd hh (by simp [msZero])⟩, ⟨fun i h => absurd h (by simp [msZero, B_size]), .inl rfl, by simp [msZero, B_size]⟩, fun _ => rfl, fun _ => rfl, by simp [msZero], by simp⟩
  size := by simp [msZero, B_size]
  room := by simp [msZero, B_size]

set_option maxRecDepth 100000 in
set_option maxHeartbeats 1000000 in
theorem parse_any (s : ByteArray) (w : World) (hs : s.size ≤ 140737488351232) (hg : Glob w) :
    Calls Tryd.prog 19 #[.string s] w fun e w' => ∃ v, e = .returned (.tuple #[v, .int .i64 (parseE s.data.toList)]) ∧ MsAt w' v (parseM s.data.toList) ∧ Below w.heap.size w w' := by
  have HS : Hid (s.size ≤ 140737488351232) := hs
  clear hs
  have hbw : ∀ o, Below w.heap.size w (w.alloc o) := fun o => (Below.refl _ _).alloc (Nat.le_refl _) o
  have hg' := fun o => hg.below (hbw o)
  cases hR : readL s.data.toList with
  | none =>
    have e1 : parseE s.data.toList = 2 := by simp [parseE, hR]
    have e2 : parseM s.data.toList = msZero := by simp [parseM, hR]
    rw [e1, e2]
    have HR : Hid (readL s.data.toList = none) := hR
    clear e1 e2 hR
    go_enter Tryd.func19, Tryd.ntmps19
    go_wp2_with fail
    refine (read_any s _ HS.out (hg' _) none HR.out).mono ?_
    rintro e w1 ⟨hh, bl⟩
    rcases hh with ⟨_, rfl⟩ | ⟨m, v, h1, _⟩
    · simp only [msgV]
      have hbx := fun j => bl.cell (p := ⟨w.heap.size, j, none⟩) (by simp)
      have hfx := fun j => bl.frozen (p := ⟨w.heap.size, j, none⟩) (by simp)
      have hsz := bl.size
      simp at hsz
      have hlt : w.heap.size < w1.heap.size := by omega
      go_wp2
      refine bodyPost_ret (v := .tuple #[.agg #[.int .i64 0, .string ⟨#[]⟩, .slice none 0 0, .slice none 0 0], .int .i64 2]) (by simp [results, Tryd.results19, go_sem, hbx, hlt]) rfl ⟨_, rfl, msAt_zero _, ?_⟩
      refine Below.alloc ?_ (by simp; omega) _
      iterate 4 (refine Below.setCell ?_ (by simp) _)
      exact (hbw _).trans (bl.mono (by simp))
    · cases h1
  | some m =>
    have e1 : parseE s.data.toList = wrongE m := by simp [parseE, hR]
    rw [e1]
    have HR : Hid (readL s.data.toList = some m) := hR
    by_cases h0 : wrongE m = 0
    · have e2 : parseM s.data.toList = m := by simp [parseM, hR, h0]
      rw [e2, h0]
      have H0 : Hid (wrongE m = 0) := h0
      clear e1 e2 hR h0
      go_enter Tryd.func19, Tryd.ntmps19
      go_wp2_with fail
      refine (read_any s _ HS.out (hg' _) (some m) HR.out).mono ?_
      rintro e w1 ⟨hh, bl⟩
      rcases hh with ⟨h1, _⟩ | ⟨m', v, h1, rfl, hm, hfr⟩
      · cases h1
      · obtain rfl : m = m' := by simpa using h1
        have hbx := fun j => bl.cell (p := ⟨w.heap.size, j, none⟩) (by simp)
        have hfx := fun j => bl.frozen (p := ⟨w.heap.size, j, none⟩) (by simp)
        have hsz := bl.size
        simp at hsz
        have hlt : w.heap.size < w1.heap.size := by omega
        have HF : Hid (From (w.heap.size + 1) v) := by show From _ _; simpa using hfr
        have HM : Hid (MsAt w1 v m) := hm
        have hm' := fun o => hm.below (Nat.le_refl _) ((Below.refl w1.heap.size w1).alloc (Nat.le_refl _) o)
        obtain ⟨⟨ao, c, bo, d, rfl, hrest⟩, _, _⟩ := hm
        clear hrest hfr
        go_wp2_with fail
        refine (wrong_any m _ _ (hm' _)).mono ?_
        rintro e w2 ⟨rfl, b2⟩
        rw [H0.out]
        have hs2 := b2.size
        simp at hs2
        have k0 := fun j => b2.cell (p := ⟨w1.heap.size, j, none⟩) (by simp)
        have k1 := fun j => (b2.cell (p := ⟨w.heap.size, j, none⟩) (by simp; omega)).trans (((Below.refl _ _).alloc (Nat.le_refl _) _).cell (p := ⟨w.heap.size, j, none⟩) hlt)
        have k2 := fun j => (b2.frozen (p := ⟨w.heap.size, j, none⟩) (by simp; omega)).trans (((Below.refl _ _).alloc (Nat.le_refl _) _).frozen (p := ⟨w.heap.size, j, none⟩) hlt)
        have ne1 : ¬ w1.heap.size = w.heap.size := by omega
        have ne2 : ¬ w.heap.size = w1.heap.size := by omega
        have BL : Hid (Below w.heap.size w w2) := ((hbw _).trans (bl.mono (by simp))).trans ((((Below.refl w1.heap.size w1).alloc (Nat.le_refl _) _).mono (by omega)).trans (b2.mono (by simp; omega)))
        have HM2 : Hid (MsAt w2 (.agg #[.int .i64 m.st, .string m.path, .slice ao m.heads.length c, .slice bo m.body.size d]) m) := (hm' _).below (Nat.le_refl _) b2
        clear bl b2 hm'
        go_wp2
        refine bodyPost_ret (v := .tuple #[.agg #[.int .i64 m.st, .string m.path, .slice ao m.heads.length c, .slice bo m.body.size d], .int .i64 0]) (by simp [results, Tryd.results19, go_sem, k1, hbx]) rfl ⟨_, rfl, ?_, ?_⟩
        · iterate 4 (refine MsAt.low ?_ HF.out (by simp) _)
          exact HM2.out
        · iterate 4 (refine Below.setCell ?_ (by simp) _)
          exact BL.out
    · have e2 : parseM s.data.toList = msZero := by simp [parseM, hR, h0]
      rw [e2]
      obtain ⟨r, hr⟩ : ∃ r, wrongE m = r := ⟨_, rfl⟩
      rw [hr] at h0 ⊢
      have hne : (r != 0) = true := by simpa using h0
      have H0 : Hid (wrongE m = r) := hr
      clear e1 e2 hR h0 hr
      go_enter Tryd.func19, Tryd.ntmps19
      go_wp2_with fail
      refine (read_any s _ HS.out (hg' _) (some m) HR.out).mono ?_
      rintro e w1 ⟨hh, bl⟩
      rcases hh with ⟨h1, _⟩ | ⟨m', v, h1, rfl, hm, hfr⟩
      · cases h1
      · obtain rfl : m = m' := by simpa using h1
        have hbx := fun j => bl.cell (p := ⟨w.heap.size, j, none⟩) (by simp)
        have hfx := fun j => bl.frozen (p := ⟨w.heap.size, j, none⟩) (by simp)
        have hsz := bl.size
        simp at hsz
        have hlt : w.heap.size < w1.heap.size := by omega
        have hm' := fun o => hm.below (Nat.le_refl _) ((Below.refl w1.heap.size w1).alloc (Nat.le_refl _) o)
        obtain ⟨⟨ao, c, bo, d, rfl, hrest⟩, _, _⟩ := hm
        clear hrest hfr
        go_wp2_with fail
        refine (wrong_any m _ _ (hm' _)).mono ?_
        rintro e w2 ⟨rfl, b2⟩
        rw [H0.out]
        have hs2 := b2.size
        simp at hs2
        have k0 := fun j => b2.cell (p := ⟨w1.heap.size, j, none⟩) (by simp)
        have k1 := fun j => (b2.cell (p := ⟨w.heap.size, j, none⟩) (by simp; omega)).trans (((Below.refl _ _).alloc (Nat.le_refl _) _).cell (p := ⟨w.heap.size, j, none⟩) hlt)
        have k2 := fun j => (b2.frozen (p := ⟨w.heap.size, j, none⟩) (by simp; omega)).trans (((Below.refl _ _).alloc (Nat.le_refl _) _).frozen (p := ⟨w.heap.size, j, none⟩) hlt)
        have ne1 : ¬ w1.heap.size = w.heap.size := by omega
        have ne2 : ¬ w.heap.size = w1.heap.size := by omega
        have BL : Hid (Below w.heap.size w w2) := ((hbw _).trans (bl.mono (by simp))).trans ((((Below.refl w1.heap.size w1).alloc (Nat.le_refl _) _).mono (by omega)).trans (b2.mono (by simp; omega)))
        clear bl b2 hm'
        go_wp2
        refine bodyPost_ret (v := .tuple #[.agg #[.int .i64 0, .string ⟨#[]⟩, .slice none 0 0, .slice none 0 0], .int .i64 r]) (by simp [results, Tryd.results19, go_sem, k1, hbx]) rfl ⟨_, rfl, msAt_zero _, ?_⟩
        iterate 4 (refine Below.setCell ?_ (by simp) _)
        exact BL.out
end Go.Proofs.YtlkfkhpokkjkpaaDoor
