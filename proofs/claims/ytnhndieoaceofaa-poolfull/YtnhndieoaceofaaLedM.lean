/- What the rows hand to the walks: a ledger that came in. -/
import Derived.Test.YtnhndieoaceofaaLedC
import Derived.Test.YtnhndieoaceofaaRows
import Derived.ProofKit
import Derived.OpenShut
import Derived.ShutString
import Derived.SizedLaws
import Derived.Deep.SlicePairs
import Derived.Laws.IdiomArrays
import Derived.Deep.DeepHandedRow
import Derived.Deep.DeepWitnessRowRef
namespace Go.Proofs.Ytnhndieoaceofaa
open Go.ChangeShapes Go.WideShapes Go.ChangeAt Go.RowKit

theorem Try.cells27 : Try.prog.cellsOf 52 = 3 := by kernel_rfl
theorem Try.cells25 : Try.prog.cellsOf 25 = 5 := by kernel_rfl
theorem Try.cells23 : Try.prog.cellsOf 23 = 4 := by kernel_rfl
theorem Try.cells22 : Try.prog.cellsOf 22 = 1 := by kernel_rfl
theorem Try.cellsN3 : Try.prog.cellsOf 3 = 1 := by kernel_rfl
theorem Try.bytes27 : Try.prog.bytesOf 52 = 24 := by kernel_rfl
theorem spot_none {w : World} {a : Addr} {v : Value} (h : w.cell? a = some v) : a.spot = none := World.cell?_spot h
theorem wfI_of {n : Int} (h : (Lit.int .i64 n).wf = true) : -9223372036854775808 ≤ n ∧ n ≤ 9223372036854775807 := by
  have h' : (decide ((-9223372036854775808 : Int) ≤ n) && decide (n ≤ (9223372036854775807 : Int))) = true := h
  simp at h'
  exact h'

section
variable {H : Type} {enc : TypeId × Value → H} {P : Program} {w : World} {base : Nat} {spare : Nat → Bool} {held : Bool}
/-- A slice of structs of three one-cell fields, opened at every index. -/
theorem open_slice_triples {t e : TypeId} {f0 f1 f2 : Field} {fuel : Nat} {cs : List Value} {x : DataW H × List MemPlace} (ht : P.underlying t = some (.slice e)) (he : P.underlying e = some (.struct #[f0, f1, f2]))
    (ce : P.cellsOf e = 3) (o0 : f0.offset = 0) (o1 : f1.offset = 1) (o2 : f2.offset = 2) (c0 : P.cellsOf f0.type = 1) (c1 : P.cellsOf f1.type = 1) (c2 : P.cellsOf f2.type = 1)
    (h : DataW.trod enc P w base spare held fuel t cs = some x) :
    (cs = [.slice none 0 0] ∧ x = (.nil, [])) ∨
    ∃ (a : Addr) (len cap m n : Nat) (D : Nat → DataW H) (Pl : Nat → List MemPlace), cs = [.slice (some a) len cap] ∧ len ≤ cap ∧ cap ≤ maxLen ∧ m = (if spare a.block then cap else len) ∧
      x = (.slice ((List.range len).map D) ((List.range (m - len)).map fun j => D (len + j)), MemPlace.row a (m * P.cellsOf e) ++ (List.range m).flatMap Pl) ∧
      ∀ i, i < m → ∃ v0 v1 v2 y0 y1 y2, w.cell? (a.add (i * 3)) = some v0 ∧ w.cell? (a.add (i * 3 + 1)) = some v1 ∧ w.cell? (a.add (i * 3 + 2)) = some v2 ∧
        DataW.trod enc P w base spare held n f0.type [v0] = some y0 ∧ DataW.trod enc P w base spare held n f1.type [v1] = some y1 ∧ DataW.trod enc P w base spare held n f2.type [v2] = some y2 := by
  rcases Deep.open_slice ht h with h0 | ⟨a, len, cap, m, n, D, Pl, rfl, hb, hl, hm, hmm, rfl, hx⟩
  · exact Or.inl h0
  right
  refine ⟨a, len, cap, m, n - 1, D, Pl, rfl, hl, hm, hmm, rfl, fun i hi => ?_⟩
  obtain ⟨cs', h1, h2⟩ := hx i hi
  rw [ce] at h1
  obtain ⟨_, hlen, hcell⟩ := World.cells?_some h1
  obtain ⟨xs, k, hk, hxy, _, hxl, hf⟩ := DataW.trod_struct he h2
  have hk' : k = n - 1 := by omega
  subst hk'
  match xs, hxl, cs', hlen with
  | [y0, y1, y2], _, [v0, v1, v2], _ =>
    have g0 := hf 0 f0 rfl
    have g1 := hf 1 f1 rfl
    have g2 := hf 2 f2 rfl
    simp [o0, o1, o2, c0, c1, c2] at g0 g1 g2
    have e0 := hcell 0 (by omega)
    have e1 := hcell 1 (by omega)
    have e2 := hcell 2 (by omega)
    rw [Deep.add_add] at e0 e1 e2
    exact ⟨v0, v1, v2, y0, y1, y2, by simpa using e0, by simpa using e1, by simpa using e2, g0, g1, g2⟩
end

/-- A slice of holds that came in. -/
theorem holds_open {H : Type} {enc : TypeId × Value → H} {W : World} {fuel : Nat} {v : Value} {x : DataW H × List MemPlace} (h : DataW.trod enc Try.prog W 0 (fun _ => true) true fuel 22 [v] = some x) (hsz : ∀ n ∈ x.1.weights Try.prog 22, n ≤ reachBytes) :
    ∃ ao c, ∃ hs : List Ho, v = .slice ao hs.length c ∧ HoldsAt W ao hs ∧ (ao = none → c = 0) ∧ hs.length ≤ c ∧ c ≤ maxLen ∧ hs.length * 24 ≤ 140737488351232 := by
  rcases open_slice_triples Try.underlying22 Try.underlying52 Try.cells27 rfl rfl rfl (by kernel_rfl) (by kernel_rfl) (by kernel_rfl) h with ⟨hcs, _⟩ | ⟨a, len, cap, m, n, D, Pl, hcs, hl, hm, hmm, hx, hel⟩
  · obtain rfl : v = .slice none 0 0 := by simpa using hcs
    exact ⟨none, 0, [], rfl, ⟨fun i h => absurd h (by simp), by simp⟩, fun _ => rfl, by simp, by unfold maxLen; omega, by simp⟩
  · obtain rfl : v = .slice (some a) len cap := by simpa using hcs
    have hmc : m = cap := by simpa using hmm
    subst hmc
    have each : ∀ i, ∃ p : Ho, i < m → W.cell? (a.add (i * 3)) = some (.int .i64 p.id) ∧ W.cell? (a.add (i * 3 + 1)) = some (.int .i64 p.kind) ∧ W.cell? (a.add (i * 3 + 2)) = some (.int .i64 p.filter) := by
      intro i
      by_cases hi : i < m
      · obtain ⟨v0, v1, v2, y0, y1, y2, e0, e1, e2, r0, r1, r2⟩ := hel i hi
        obtain ⟨s0, q0, _, _⟩ := DataW.trod_int Try.underlying3 r0
        obtain ⟨s1, q1, _, _⟩ := DataW.trod_int Try.underlying3 r1
        obtain ⟨s2, q2, _, _⟩ := DataW.trod_int Try.underlying3 r2
        have q0' : v0 = .int .i64 s0 := by simpa using q0
        have q1' : v1 = .int .i64 s1 := by simpa using q1
        have q2' : v2 = .int .i64 s2 := by simpa using q2
        exact ⟨⟨s0, s1, s2⟩, fun _ => ⟨by rw [e0, q0'], by rw [e1, q1'], by rw [e2, q2']⟩⟩
      · exact ⟨⟨0, 0, 0⟩, fun h => absurd h hi⟩
    obtain ⟨f, hf⟩ := Classical.axiomOfChoice each
    have hlen : ((List.range len).map f).length = len := by simp
    refine ⟨some a, m, (List.range len).map f, by rw [hlen], ⟨?_, ?_⟩, (fun e => by cases e), by rw [hlen]; exact hl, hm, ?_⟩
    · intro i hi
      have hi' : i < len := by simpa using hi
      obtain ⟨e0, e1, e2⟩ := hf i (by omega)
      have hsp : a.spot = none := by
        have := spot_none (hf 0 (by omega)).1
        simpa [Addr.add] using this
      obtain ⟨b, off, spot⟩ := a
      obtain rfl : spot = none := hsp
      rw [add_none] at e0 e1 e2
      refine ⟨b, off, rfl, block_lt_of_cell e0, by simpa using e0, ?_, ?_⟩
      · rw [Nat.add_assoc]; simpa using e1
      · rw [Nat.add_assoc]; simpa using e2
    · rw [hlen]; omega
    · have := hsz ((len + (m - len)) * 24) (by
        rw [hx]
        simp only [DataW.weights, Try.underlying22, Try.bytes27, List.length_map, List.length_range]
        exact List.mem_cons_self ..)
      rw [hlen]
      have e : reachBytes = 140737488351232 := rfl
      omega

set_option maxRecDepth 100000 in
/-- A ledger that came in. -/
theorem ledger_open {H : Type} {enc : TypeId × Value → H} {W : World} {base : Nat} {v : Value} {d : DataW H} {p : List MemPlace} (hv : Value.okWide Try.prog W .any base 25 v) (h : DataW.Trod enc Try.prog W 0 (fun _ => true) true 25 v d p) (hsz : ∀ n ∈ d.weights Try.prog 25, n ≤ reachBytes) :
    ∃ l, LgAt W v l ∧ l.holds.length * 24 ≤ 140737488351232 := by
  obtain ⟨cs, rfl, hc⟩ := okWide_struct Try.underlying25 hv
  have hc5 : cs.size = 5 := hc.trans Try.cells25
  obtain ⟨l⟩ := cs
  match l, hc5 with
  | [c0, c1, c2, c3, c4], _ =>
    obtain ⟨fuel, hf⟩ := h
    obtain ⟨xs, n, _, hx, _, hlen, hff⟩ := DataW.trod_struct Try.underlying25 hf
    match xs, hlen with
    | [y0, y1], _ =>
      have g0 := hff 0 _ rfl
      have g1 := hff 1 _ rfl
      simp [Value.cells, Try.cells22, Try.cells23] at g0 g1
      obtain ⟨z0, z1, z2, z3, k, _, r0, r1, r2, r3⟩ := trod_array4 Try.underlying23 Try.cellsN3 g1
      obtain ⟨s0, q0, _, _⟩ := DataW.trod_int Try.underlying3 r0
      obtain ⟨s1, q1, _, _⟩ := DataW.trod_int Try.underlying3 r1
      obtain ⟨s2, q2, _, _⟩ := DataW.trod_int Try.underlying3 r2
      obtain ⟨s3, q3, _, _⟩ := DataW.trod_int Try.underlying3 r3
      simp at q0 q1 q2 q3
      subst q0 q1 q2 q3
      obtain ⟨ao, c, hs, rfl, a1, a2, a3, a4, a5⟩ := holds_open g0 fun k hk => hsz k (by
        simp only [Prod.mk.injEq] at hx
        rw [hx.1]
        simp only [DataW.weights, Try.underlying25, List.map_cons, List.map_nil, DataW.weightsEach, List.mem_append]
        exact .inl hk)
      exact ⟨⟨hs, s0, s1, s2, s3⟩, ⟨ao, c, rfl, a1, a2, a3, a4⟩, a5⟩
end Go.Proofs.Ytnhndieoaceofaa
