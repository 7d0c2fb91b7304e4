/- What the rows hand to the walks: a filter and a conf that came in. -/
import Derived.Test.YtbpmcabeghbalaaCapD
import Derived.ProofKit
import Derived.OpenShut
import Derived.ShutString
import Derived.SizedLaws
import Derived.Deep.SlicePairs
import Derived.Deep.DeepHandedRow
import Derived.Deep.DeepWitnessRowRef
import Derived.Lib.SmallJoins
import Derived.LaidMore
namespace Go.Proofs.Ytbpmcabeghbalaa
open Go.ChangeShapes Go.WideShapes Go.ChangeAt Go.RowKit

theorem own : ownKnob Try.prog.godebug = none := by kernel_rfl
theorem laidOut : laidOutB Try.prog = true := by kernel_rfl
theorem Try.cells23 : Try.prog.cellsOf 38 = 4 := by kernel_rfl
theorem Try.cells42 : Try.prog.cellsOf 47 = 4 := by kernel_rfl
theorem Try.cells46 : Try.prog.cellsOf 49 = 5 := by kernel_rfl
theorem Try.cells28 : Try.prog.cellsOf 26 = 7 := by kernel_rfl
theorem Try.cellsN24 : Try.prog.cellsOf 22 = 1 := by kernel_rfl
theorem Try.cellsN25 : Try.prog.cellsOf 23 = 1 := by kernel_rfl
theorem Try.cellsN26 : Try.prog.cellsOf 24 = 1 := by kernel_rfl
theorem Try.cellsN3 : Try.prog.cellsOf 3 = 1 := by kernel_rfl
theorem add_none (b off j : Nat) : (⟨b, off, none⟩ : Addr).add j = ⟨b, off + j, none⟩ := by unfold Addr.add; split <;> simp_all
theorem spot_none {w : World} {a : Addr} {v : Value} (h : w.cell? a = some v) : a.spot = none := World.cell?_spot h

section
variable {H : Type} {enc : TypeId × Value → H} {P : Program} {w : World} {base : Nat} {spare : Nat → Bool} {held : Bool}
/-- A slice of structs of four one-cell fields, opened at every index. -/
theorem open_slice_quads {t e : TypeId} {f0 f1 f2 f3 : Field} {fuel : Nat} {cs : List Value} {x : DataW H × List MemPlace} (ht : P.underlying t = some (.slice e)) (he : P.underlying e = some (.struct #[f0, f1, f2, f3]))
    (ce : P.cellsOf e = 4) (o0 : f0.offset = 0) (o1 : f1.offset = 1) (o2 : f2.offset = 2) (o3 : f3.offset = 3) (c0 : P.cellsOf f0.type = 1) (c1 : P.cellsOf f1.type = 1) (c2 : P.cellsOf f2.type = 1) (c3 : P.cellsOf f3.type = 1)
    (h : DataW.trod enc P w base spare held fuel t cs = some x) :
    (cs = [.slice none 0 0] ∧ x = (.nil, [])) ∨
    ∃ (a : Addr) (len cap m n : Nat), cs = [.slice (some a) len cap] ∧ len ≤ cap ∧ cap ≤ maxLen ∧ m = (if spare a.block then cap else len) ∧
      ∀ i, i < m → ∃ v0 v1 v2 v3 y0 y1 y2 y3, w.cell? (a.add (i * 4)) = some v0 ∧ w.cell? (a.add (i * 4 + 1)) = some v1 ∧ w.cell? (a.add (i * 4 + 2)) = some v2 ∧ w.cell? (a.add (i * 4 + 3)) = some v3 ∧
        DataW.trod enc P w base spare held n f0.type [v0] = some y0 ∧ DataW.trod enc P w base spare held n f1.type [v1] = some y1 ∧ DataW.trod enc P w base spare held n f2.type [v2] = some y2 ∧ DataW.trod enc P w base spare held n f3.type [v3] = some y3 := by
  rcases Deep.open_slice ht h with h0 | ⟨a, len, cap, m, n, D, Pl, rfl, hb, hl, hm, hmm, rfl, hx⟩
  · exact Or.inl h0
  right
  refine ⟨a, len, cap, m, n - 1, rfl, hl, hm, hmm, fun i hi => ?_⟩
  obtain ⟨cs', h1, h2⟩ := hx i hi
  rw [ce] at h1
  obtain ⟨_, hlen, hcell⟩ := World.cells?_some h1
  obtain ⟨xs, k, hk, hxy, _, hxl, hf⟩ := DataW.trod_struct he h2
  have hk' : k = n - 1 := by omega
  subst hk'
  match xs, hxl, cs', hlen with
  | [y0, y1, y2, y3], _, [v0, v1, v2, v3], _ =>
    have g0 := hf 0 f0 rfl
    have g1 := hf 1 f1 rfl
    have g2 := hf 2 f2 rfl
    have g3 := hf 3 f3 rfl
    simp [o0, o1, o2, o3, c0, c1, c2, c3] at g0 g1 g2 g3
    have e0 := hcell 0 (by omega)
    have e1 := hcell 1 (by omega)
    have e2 := hcell 2 (by omega)
    have e3 := hcell 3 (by omega)
    rw [Deep.add_add] at e0 e1 e2 e3
    exact ⟨v0, v1, v2, v3, y0, y1, y2, y3, by simpa using e0, by simpa using e1, by simpa using e2, by simpa using e3, g0, g1, g2, g3⟩
/-- A slice of structs of five one-cell fields, opened at every index. -/
theorem open_slice_quints {t e : TypeId} {f0 f1 f2 f3 f4 : Field} {fuel : Nat} {cs : List Value} {x : DataW H × List MemPlace} (ht : P.underlying t = some (.slice e)) (he : P.underlying e = some (.struct #[f0, f1, f2, f3, f4]))
    (ce : P.cellsOf e = 5) (o0 : f0.offset = 0) (o1 : f1.offset = 1) (o2 : f2.offset = 2) (o3 : f3.offset = 3) (o4 : f4.offset = 4) (c0 : P.cellsOf f0.type = 1) (c1 : P.cellsOf f1.type = 1) (c2 : P.cellsOf f2.type = 1) (c3 : P.cellsOf f3.type = 1) (c4 : P.cellsOf f4.type = 1)
    (h : DataW.trod enc P w base spare held fuel t cs = some x) :
    (cs = [.slice none 0 0] ∧ x = (.nil, [])) ∨
    ∃ (a : Addr) (len cap m n : Nat), cs = [.slice (some a) len cap] ∧ len ≤ cap ∧ cap ≤ maxLen ∧ m = (if spare a.block then cap else len) ∧
      ∀ i, i < m → ∃ v0 v1 v2 v3 v4 y0 y1 y2 y3 y4, w.cell? (a.add (i * 5)) = some v0 ∧ w.cell? (a.add (i * 5 + 1)) = some v1 ∧ w.cell? (a.add (i * 5 + 2)) = some v2 ∧ w.cell? (a.add (i * 5 + 3)) = some v3 ∧ w.cell? (a.add (i * 5 + 4)) = some v4 ∧
        DataW.trod enc P w base spare held n f0.type [v0] = some y0 ∧ DataW.trod enc P w base spare held n f1.type [v1] = some y1 ∧ DataW.trod enc P w base spare held n f2.type [v2] = some y2 ∧ DataW.trod enc P w base spare held n f3.type [v3] = some y3 ∧ DataW.trod enc P w base spare held n f4.type [v4] = some y4 := by
  rcases Deep.open_slice ht h with h0 | ⟨a, len, cap, m, n, D, Pl, rfl, hb, hl, hm, hmm, rfl, hx⟩
  · exact Or.inl h0
  right
  refine ⟨a, len, cap, m, n - 1, rfl, hl, hm, hmm, fun i hi => ?_⟩
  obtain ⟨cs', h1, h2⟩ := hx i hi
  rw [ce] at h1
  obtain ⟨_, hlen, hcell⟩ := World.cells?_some h1
  obtain ⟨xs, k, hk, hxy, _, hxl, hf⟩ := DataW.trod_struct he h2
  have hk' : k = n - 1 := by omega
  subst hk'
  match xs, hxl, cs', hlen with
  | [y0, y1, y2, y3, y4], _, [v0, v1, v2, v3, v4], _ =>
    have g0 := hf 0 f0 rfl
    have g1 := hf 1 f1 rfl
    have g2 := hf 2 f2 rfl
    have g3 := hf 3 f3 rfl
    have g4 := hf 4 f4 rfl
    simp [o0, o1, o2, o3, o4, c0, c1, c2, c3, c4] at g0 g1 g2 g3 g4
    have e0 := hcell 0 (by omega)
    have e1 := hcell 1 (by omega)
    have e2 := hcell 2 (by omega)
    have e3 := hcell 3 (by omega)
    have e4 := hcell 4 (by omega)
    rw [Deep.add_add] at e0 e1 e2 e3 e4
    exact ⟨v0, v1, v2, v3, v4, y0, y1, y2, y3, y4, by simpa using e0, by simpa using e1, by simpa using e2, by simpa using e3, by simpa using e4, g0, g1, g2, g3, g4⟩
end

/-- Rows out of what lies at every index. -/
theorem rows_of {α : Type} (c : α → List Value) (k : Nat) (good : α → Prop) (d : α) (z : α → Value) (hz : ∀ p, (c p)[0]? = some (z p)) {W : World} {a : Addr} {len m : Nat} (hl : len ≤ m) (hm : m ≤ maxLen)
    (hel : ∀ i, i < m → ∃ p, good p ∧ ∀ j v, (c p)[j]? = some v → W.cell? (a.add (i * k + j)) = some v) :
    ∃ l : List α, l.length = len ∧ RowsAt c k W (some a) l ∧ ∀ p ∈ l, good p := by
  have each : ∀ i, ∃ p : α, i < m → good p ∧ ∀ j v, (c p)[j]? = some v → W.cell? (a.add (i * k + j)) = some v := by
    intro i
    by_cases hi : i < m
    · obtain ⟨p, h⟩ := hel i hi
      exact ⟨p, fun _ => h⟩
    · exact ⟨d, fun h => absurd h hi⟩
  obtain ⟨f, hf⟩ := Classical.axiomOfChoice each
  have hlen : ((List.range len).map f).length = len := by simp
  refine ⟨(List.range len).map f, hlen, ⟨?_, by rw [hlen]; omega⟩, ?_⟩
  · intro i hi
    have hi' : i < len := by simpa using hi
    obtain ⟨_, he⟩ := hf i (by omega)
    have hsp : a.spot = none := by
      have := spot_none ((hf 0 (by omega)).2 0 _ (hz _))
      simpa [Addr.add] using this
    obtain ⟨b, off, spot⟩ := a
    obtain rfl : spot = none := hsp
    have ei : ((List.range len).map f)[i] = f i := by simp
    have e0 := he 0 _ (hz _)
    rw [add_none] at e0
    refine ⟨b, off, rfl, block_lt_of_cell e0, fun j v hj => ?_⟩
    rw [ei] at hj
    have e1 := he j v hj
    rw [add_none] at e1
    rw [Nat.add_assoc]; exact e1
  · intro p hp
    obtain ⟨i, hi, rfl⟩ := List.mem_map.1 hp
    exact (hf i (by have := List.mem_range.1 hi; omega)).1

theorem at4 {α : Type} {c : α → List Value} {p : α} {W : World} {a : Addr} {i : Nat} {v0 v1 v2 v3 : Value} (hc : c p = [v0, v1, v2, v3]) (e0 : W.cell? (a.add (i * 4)) = some v0) (e1 : W.cell? (a.add (i * 4 + 1)) = some v1) (e2 : W.cell? (a.add (i * 4 + 2)) = some v2) (e3 : W.cell? (a.add (i * 4 + 3)) = some v3) :
    ∀ j v, (c p)[j]? = some v → W.cell? (a.add (i * 4 + j)) = some v := by
  intro j v hj
  rw [hc] at hj
  match j with
  | 0 => simp at hj; subst hj; exact e0
  | 1 => simp at hj; subst hj; exact e1
  | 2 => simp at hj; subst hj; exact e2
  | 3 => simp at hj; subst hj; exact e3
  | j + 4 => simp at hj
theorem at5 {α : Type} {c : α → List Value} {p : α} {W : World} {a : Addr} {i : Nat} {v0 v1 v2 v3 v4 : Value} (hc : c p = [v0, v1, v2, v3, v4]) (e0 : W.cell? (a.add (i * 5)) = some v0) (e1 : W.cell? (a.add (i * 5 + 1)) = some v1) (e2 : W.cell? (a.add (i * 5 + 2)) = some v2) (e3 : W.cell? (a.add (i * 5 + 3)) = some v3) (e4 : W.cell? (a.add (i * 5 + 4)) = some v4) :
    ∀ j v, (c p)[j]? = some v → W.cell? (a.add (i * 5 + j)) = some v := by
  intro j v hj
  rw [hc] at hj
  match j with
  | 0 => simp at hj; subst hj; exact e0
  | 1 => simp at hj; subst hj; exact e1
  | 2 => simp at hj; subst hj; exact e2
  | 3 => simp at hj; subst hj; exact e3
  | 4 => simp at hj; subst hj; exact e4
  | j + 5 => simp at hj

theorem rows_none {α : Type} (c : α → List Value) (k : Nat) (w : World) : RowsAt c k w none ([] : List α) := ⟨fun i h => absurd h (Nat.not_lt_zero i), Nat.zero_le _⟩

section
variable {H : Type} {enc : TypeId × Value → H} {W : World} {fuel : Nat} {v : Value} {x : DataW H × List MemPlace}
theorem svs_open (h : DataW.trod enc Try.prog W 0 (fun _ => true) true fuel 22 [v] = some x) : ∃ ao c, ∃ l : List Sv, v = .slice ao l.length c ∧ RowsAt svL 4 W ao l ∧ svOk l := by
  rcases open_slice_quads Try.underlying22 Try.underlying38 Try.cells23 rfl rfl rfl rfl (by kernel_rfl) (by kernel_rfl) (by kernel_rfl) (by kernel_rfl) h with ⟨hcs, _⟩ | ⟨a, len, cap, m, n, hcs, hl, hm, hmm, hel⟩
  · obtain rfl : v = .slice none 0 0 := by simpa using hcs
    exact ⟨none, 0, [], rfl, rows_none _ _ _, fun s hs => nomatch hs⟩
  · obtain rfl : v = .slice (some a) len cap := by simpa using hcs
    have hmc : m = cap := by simpa using hmm
    subst hmc
    obtain ⟨l, hlen, hr, hg⟩ := rows_of svL 4 (fun s => s.key.size ≤ maxLen ∧ s.text.size ≤ maxLen) ⟨0, 0, ByteArray.empty, ByteArray.empty⟩ (fun s => .int .i64 s.k) (fun _ => rfl) (W := W) (a := a) hl hm (fun i hi => by
      obtain ⟨v0, v1, v2, v3, y0, y1, y2, y3, e0, e1, e2, e3, r0, r1, r2, r3⟩ := hel i hi
      obtain ⟨s0, q0, _, _⟩ := DataW.trod_int Try.underlying3 r0
      obtain ⟨s1, q1, _, _⟩ := DataW.trod_int Try.underlying3 r1
      obtain ⟨s2, q2, _, k2⟩ := DataW.trod_string Try.underlying9 r2
      obtain ⟨s3, q3, _, k3⟩ := DataW.trod_string Try.underlying9 r3
      simp at q0 q1 q2 q3
      subst q0 q1 q2 q3
      exact ⟨⟨s0, s1, s2, s3⟩, ⟨k2, k3⟩, at4 rfl e0 e1 e2 e3⟩)
    exact ⟨some a, m, l, by rw [hlen], hr, hg⟩
theorem ups_open (h : DataW.trod enc Try.prog W 0 (fun _ => true) true fuel 23 [v] = some x) : ∃ ao c, ∃ l : List Up, v = .slice ao l.length c ∧ RowsAt upL 4 W ao l ∧ upOk l := by
  rcases open_slice_quads Try.underlying23 Try.underlying47 Try.cells42 rfl rfl rfl rfl (by kernel_rfl) (by kernel_rfl) (by kernel_rfl) (by kernel_rfl) h with ⟨hcs, _⟩ | ⟨a, len, cap, m, n, hcs, hl, hm, hmm, hel⟩
  · obtain rfl : v = .slice none 0 0 := by simpa using hcs
    exact ⟨none, 0, [], rfl, rows_none _ _ _, fun s hs => nomatch hs⟩
  · obtain rfl : v = .slice (some a) len cap := by simpa using hcs
    have hmc : m = cap := by simpa using hmm
    subst hmc
    obtain ⟨l, hlen, hr, hg⟩ := rows_of upL 4 (fun s => s.text.size ≤ maxLen ∧ s.path.size ≤ maxLen) ⟨ByteArray.empty, 0, ByteArray.empty, 0⟩ (fun s => .string s.path) (fun _ => rfl) (W := W) (a := a) hl hm (fun i hi => by
      obtain ⟨v0, v1, v2, v3, y0, y1, y2, y3, e0, e1, e2, e3, r0, r1, r2, r3⟩ := hel i hi
      obtain ⟨s0, q0, _, k0⟩ := DataW.trod_string Try.underlying9 r0
      obtain ⟨s1, q1, _, _⟩ := DataW.trod_int Try.underlying3 r1
      obtain ⟨s2, q2, _, k2⟩ := DataW.trod_string Try.underlying9 r2
      obtain ⟨s3, q3, _, _⟩ := DataW.trod_int Try.underlying3 r3
      simp at q0 q1 q2 q3
      subst q0 q1 q2 q3
      exact ⟨⟨s0, s1, s2, s3⟩, ⟨k2, k0⟩, at4 rfl e0 e1 e2 e3⟩)
    exact ⟨some a, m, l, by rw [hlen], hr, hg⟩
theorem bds_open (h : DataW.trod enc Try.prog W 0 (fun _ => true) true fuel 24 [v] = some x) : ∃ ao c, ∃ l : List Bd, v = .slice ao l.length c ∧ RowsAt bdL 5 W ao l ∧ bdOk l := by
  rcases open_slice_quints Try.underlying24 Try.underlying49 Try.cells46 rfl rfl rfl rfl rfl (by kernel_rfl) (by kernel_rfl) (by kernel_rfl) (by kernel_rfl) (by kernel_rfl) h with ⟨hcs, _⟩ | ⟨a, len, cap, m, n, hcs, hl, hm, hmm, hel⟩
  · obtain rfl : v = .slice none 0 0 := by simpa using hcs
    exact ⟨none, 0, [], rfl, rows_none _ _ _, fun s hs => nomatch hs⟩
  · obtain rfl : v = .slice (some a) len cap := by simpa using hcs
    have hmc : m = cap := by simpa using hmm
    subst hmc
    obtain ⟨l, hlen, hr, hg⟩ := rows_of bdL 5 (fun s => s.text.size ≤ maxLen) ⟨0, 0, 0, 0, ByteArray.empty⟩ (fun s => .int .i64 s.id) (fun _ => rfl) (W := W) (a := a) hl hm (fun i hi => by
      obtain ⟨v0, v1, v2, v3, v4, y0, y1, y2, y3, y4, e0, e1, e2, e3, e4, r0, r1, r2, r3, r4⟩ := hel i hi
      obtain ⟨s0, q0, _, _⟩ := DataW.trod_int Try.underlying3 r0
      obtain ⟨s1, q1, _, _⟩ := DataW.trod_int Try.underlying3 r1
      obtain ⟨s2, q2, _, _⟩ := DataW.trod_int Try.underlying3 r2
      obtain ⟨s3, q3, _, _⟩ := DataW.trod_int Try.underlying3 r3
      obtain ⟨s4, q4, _, k4⟩ := DataW.trod_string Try.underlying9 r4
      simp at q0 q1 q2 q3 q4
      subst q0 q1 q2 q3 q4
      exact ⟨⟨s0, s1, s2, s3, s4⟩, k4, at5 rfl e0 e1 e2 e3 e4⟩)
    exact ⟨some a, m, l, by rw [hlen], hr, hg⟩
end

set_option maxRecDepth 100000 in
/-- A conf that came in. -/
theorem conf_open {H : Type} {enc : TypeId × Value → H} {W : World} {base : Nat} {v : Value} {d : DataW H} {p : List MemPlace} (hv : Value.okWide Try.prog W .any base 26 v) (h : DataW.Trod enc Try.prog W 0 (fun _ => true) true 26 v d p) :
    ∃ (c : Cf) (ao bo po : Option Addr) (ac bc pc : Nat), v = .agg #[.slice ao c.svs.length ac, .slice bo c.ups.length bc, .slice po c.bds.length pc, .int .i64 c.fl, .int .i64 c.co, .int .i64 c.wa, .int .i64 c.ti] ∧ CfLies W c ao bo po := by
  obtain ⟨cs, rfl, hc⟩ := okWide_struct Try.underlying26 hv
  have hc7 : cs.size = 7 := hc.trans Try.cells28
  obtain ⟨l⟩ := cs
  match l, hc7 with
  | [c0, c1, c2, c3, c4, c5, c6], _ =>
    obtain ⟨fuel, hf⟩ := h
    obtain ⟨xs, n, _, hx, _, hlen, hff⟩ := DataW.trod_struct Try.underlying26 hf
    match xs, hlen with
    | [y0, y1, y2, y3, y4, y5, y6], _ =>
      have g0 := hff 0 _ rfl
      have g1 := hff 1 _ rfl
      have g2 := hff 2 _ rfl
      have g3 := hff 3 _ rfl
      have g4 := hff 4 _ rfl
      have g5 := hff 5 _ rfl
      have g6 := hff 6 _ rfl
      simp [Value.cells, Try.cellsN24, Try.cellsN25, Try.cellsN26, Try.cellsN3] at g0 g1 g2 g3 g4 g5 g6
      obtain ⟨s3, q3, _, _⟩ := DataW.trod_int Try.underlying3 g3
      obtain ⟨s4, q4, _, _⟩ := DataW.trod_int Try.underlying3 g4
      obtain ⟨s5, q5, _, _⟩ := DataW.trod_int Try.underlying3 g5
      obtain ⟨s6, q6, _, _⟩ := DataW.trod_int Try.underlying3 g6
      simp at q3 q4 q5 q6
      subst q3 q4 q5 q6
      obtain ⟨ao, ac, l0, rfl, r0, k0⟩ := svs_open g0
      obtain ⟨bo, bc, l1, rfl, r1, k1⟩ := ups_open g1
      obtain ⟨po, pc, l2, rfl, r2, k2⟩ := bds_open g2
      exact ⟨⟨l0, l1, l2, s3, s4, s5, s6⟩, ao, bo, po, ac, bc, pc, rfl, r0, r1, r2, k0, k1, k2⟩

set_option maxRecDepth 100000 in
/-- A filter that came in. -/
theorem sieve_open {H : Type} {enc : TypeId × Value → H} {W : World} {base : Nat} {v : Value} {d : DataW H} {p : List MemPlace} (hv : Value.okWide Try.prog W .any base 38 v) (h : DataW.Trod enc Try.prog W 0 (fun _ => true) true 38 v d p) :
    ∃ (k n : Int) (key text : ByteArray), v = .agg #[.int .i64 k, .int .i64 n, .string key, .string text] ∧ (Lit.int .i64 k).wf = true := by
  obtain ⟨v0, v1, v2, v3, y0, y1, y2, y3, n, rfl, rfl, rfl, h0, h1, h2, h3⟩ := Joins.open_agg4 Try.underlying38 (by kernel_rfl) Try.cells23 hv h
  obtain ⟨k, e0, _, wk⟩ := DataW.trod_int Try.underlying3 h0
  obtain ⟨n', e1, _, _⟩ := DataW.trod_int Try.underlying3 h1
  obtain ⟨key, e2, _, _⟩ := DataW.trod_string Try.underlying9 h2
  obtain ⟨text, e3, _, _⟩ := DataW.trod_string Try.underlying9 h3
  simp at e0 e1 e2 e3
  subst e0 e1 e2 e3
  exact ⟨k, n', key, text, rfl, wk⟩
end Go.Proofs.Ytbpmcabeghbalaa
