/- What the rows hand to the walks: a world, and a slice of numbers, that came in. -/
import Derived.Test.YtnhndieoaceofaaPoolA
import Derived.Test.YtnhndieoaceofaaLedM
namespace Go.Proofs.Ytnhndieoaceofaa
open Go.ChangeShapes Go.WideShapes Go.ChangeAt Go.RowKit

theorem own : ownKnob Try.prog.godebug = none := by kernel_rfl
theorem laidOut : laidOutB Try.prog = true := by kernel_rfl
theorem Try.cells29 : Try.prog.cellsOf 29 = 9 := by kernel_rfl
theorem Try.cells26 : Try.prog.cellsOf 26 = 1 := by kernel_rfl
theorem Try.cellsM27 : Try.prog.cellsOf 27 = 1 := by kernel_rfl
theorem Try.cells43 : Try.prog.cellsOf 43 = 3 := by kernel_rfl
theorem Try.bytes43 : Try.prog.bytesOf 43 = 24 := by kernel_rfl
theorem Try.bytes3 : Try.prog.bytesOf 3 = 8 := by kernel_rfl

/-- A slice of marks that came in. -/
theorem marks_open {H : Type} {enc : TypeId × Value → H} {W : World} {fuel : Nat} {v : Value} {x : DataW H × List MemPlace} (h : DataW.trod enc Try.prog W 0 (fun _ => true) true fuel 27 [v] = some x) (hsz : ∀ n ∈ x.1.weights Try.prog 27, n ≤ reachBytes) :
    ∃ ao c, ∃ hs : List Ho, v = .slice ao hs.length c ∧ HoldsAt W ao hs ∧ (ao = none → c = 0) ∧ hs.length ≤ c ∧ c ≤ maxLen ∧ hs.length * 24 ≤ 140737488351232 := by
  rcases open_slice_triples Try.underlying27 Try.underlying43 Try.cells43 rfl rfl rfl (by kernel_rfl) (by kernel_rfl) (by kernel_rfl) h with ⟨hcs, _⟩ | ⟨a, len, cap, m, n, D, Pl, hcs, hl, hm, hmm, hx, hel⟩
  · obtain rfl : v = .slice none 0 0 := by simpa using hcs
    exact ⟨none, 0, [], rfl, ⟨fun i h => absurd h (by simp), by simp⟩, fun _ => rfl, by simp, by unfold maxLen; omega, by simp⟩
  · obtain rfl : v = .slice (some a) len cap := by simpa using hcs
    have hmc : m = cap := by simpa using hmm
    subst hmc
    have each : ∀ i, ∃ p : Ho, i < m → W.cell? (a.add (i * 3)) = some (.int .i64 p.id) ∧ W.cell? (a.add (i * 3 + 1)) = some (.int .i64 p.kind) ∧ W.cell? (a.add (i * 3 + 2)) = some (.int .i64 p.filter) := by
      intro i
      by_cases hi : i < m
      · obtain ⟨v0, v1, v2, y0, y1, y2, e0, e1, e2, r0, r1, r2⟩ := hel i hi
        obtain ⟨s0, q0, _, _⟩ := DataW.trod_int Try.underlying3 r0
        obtain ⟨s1, q1, _, _⟩ := DataW.trod_int Try.underlying3 r1
        obtain ⟨s2, q2, _, _⟩ := DataW.trod_int Try.underlying3 r2
        have q0' : v0 = .int .i64 s0 := by simpa using q0
        have q1' : v1 = .int .i64 s1 := by simpa using q1
        have q2' : v2 = .int .i64 s2 := by simpa using q2
        exact ⟨⟨s0, s1, s2⟩, fun _ => ⟨by rw [e0, q0'], by rw [e1, q1'], by rw [e2, q2']⟩⟩
      · exact ⟨⟨0, 0, 0⟩, fun h => absurd h hi⟩
    obtain ⟨f, hf⟩ := Classical.axiomOfChoice each
    have hlen : ((List.range len).map f).length = len := by simp
    refine ⟨some a, m, (List.range len).map f, by rw [hlen], ⟨?_, ?_⟩, (fun e => by cases e), by rw [hlen]; exact hl, hm, ?_⟩
    · intro i hi
      have hi' : i < len := by simpa using hi
      obtain ⟨e0, e1, e2⟩ := hf i (by omega)
      have hsp : a.spot = none := by
        have := spot_none (hf 0 (by omega)).1
        simpa [Addr.add] using this
      obtain ⟨b, off, spot⟩ := a
      obtain rfl : spot = none := hsp
      rw [add_none] at e0 e1 e2
      refine ⟨b, off, rfl, block_lt_of_cell e0, by simpa using e0, ?_, ?_⟩
      · rw [Nat.add_assoc]; simpa using e1
      · rw [Nat.add_assoc]; simpa using e2
    · rw [hlen]; omega
    · have := hsz ((len + (m - len)) * 24) (by
        rw [hx]
        simp only [DataW.weights, Try.underlying27, Try.bytes43, List.length_map, List.length_range]
        exact List.mem_cons_self ..)
      rw [hlen]
      have e : reachBytes = 140737488351232 := rfl
      omega

/-- A slice of numbers that came in. -/
theorem ints_trod {H : Type} {enc : TypeId × Value → H} {W : World} {fuel : Nat} {v : Value} {x : DataW H × List MemPlace} (h : DataW.trod enc Try.prog W 0 (fun _ => true) true fuel 26 [v] = some x) (hsz : ∀ n ∈ x.1.weights Try.prog 26, n ≤ reachBytes) :
    ∃ ao c, ∃ xs : List Int, v = .slice ao xs.length c ∧ IntsAt W ao xs ∧ Cap ao xs.length c ∧ xs.length * 8 ≤ 140737488351232 := by
  rcases open_ints Try.underlying26 Try.underlying3 (by kernel_rfl) h with ⟨hcs, _⟩ | ⟨a, len, cap, zs, hcs, _, hl, hm, hz, hx, hcell, hwz⟩
  · obtain rfl : v = .slice none 0 0 := by simpa using hcs
    exact ⟨none, 0, [], rfl, ints_nil _ _, cap_nil, by simp⟩
  · obtain rfl : v = .slice (some a) len cap := by simpa using hcs
    have hzl : zs.length = cap := by simpa using hz
    have hbl : (zs.take len).length = len := by rw [List.length_take]; omega
    refine ⟨some a, cap, zs.take len, by rw [hbl], ⟨?_, by rw [hbl]; omega⟩, ⟨fun e => (by cases e), by rw [hbl]; exact hl, hm⟩, ?_⟩
    · intro i hi
      have hi' : i < len := by omega
      have hsp : a.spot = none := by
        have := spot_none (hcell 0 (by omega))
        simpa [Addr.add] using this
      obtain ⟨b, off, spot⟩ := a
      obtain rfl : spot = none := hsp
      have hc := hcell i (by omega)
      rw [add_none] at hc
      refine ⟨b, off, rfl, block_lt_of_cell hc, ?_⟩
      rw [hc, List.getElem_take, List.getD_eq_getElem?_getD, List.getElem?_eq_getElem (by omega)]
      rfl
    · have := hsz ((len + (cap - len)) * 8) (by
        rw [hx]
        simp only [DataW.weights, Try.underlying26, Try.bytes3, lits, List.length_map, List.length_take, List.length_drop, hzl, Nat.min_eq_left hl]
        exact List.mem_cons_self ..)
      rw [hbl]
      have e : reachBytes = 140737488351232 := rfl
      omega
theorem ints_open {H : Type} {enc : TypeId × Value → H} {W : World} {base : Nat} {v : Value} {d : DataW H} {p : List MemPlace} (hv : Value.okWide Try.prog W .any base 26 v) (h : DataW.Trod enc Try.prog W 0 (fun _ => true) true 26 v d p) (hsz : ∀ n ∈ d.weights Try.prog 26, n ≤ reachBytes) :
    ∃ ao c, ∃ xs : List Int, v = .slice ao xs.length c ∧ IntsAt W ao xs := by
  obtain ⟨a0, l0, c0, rfl⟩ := okWide_slice Try.underlying26 hv
  obtain ⟨fuel, hf⟩ := h
  obtain ⟨ao, c, xs, e, h1, _, _⟩ := ints_trod (v := .slice a0 l0 c0) hf hsz
  exact ⟨ao, c, xs, e, h1⟩

set_option maxRecDepth 100000 in
/-- A world that came in. -/
theorem world_open {H : Type} {enc : TypeId × Value → H} {W : World} {base : Nat} {v : Value} {d : DataW H} {p : List MemPlace} (hv : Value.okWide Try.prog W .any base 29 v) (h : DataW.Trod enc Try.prog W 0 (fun _ => true) true 29 v d p) (hsz : ∀ n ∈ d.weights Try.prog 29, n ≤ reachBytes) :
    ∃ (D : Wd) (A : Ad), v = wdV D A ∧ WdLies W D A ∧ Fits D := by
  obtain ⟨cs, rfl, hc⟩ := okWide_struct Try.underlying29 hv
  have hc9 : cs.size = 9 := hc.trans Try.cells29
  obtain ⟨l⟩ := cs
  match l, hc9 with
  | [c0, c1, c2, c3, c4, c5, c6, c7, c8], _ =>
    obtain ⟨fuel, hf⟩ := h
    obtain ⟨xs, n, _, hx, _, hlen, hff⟩ := DataW.trod_struct Try.underlying29 hf
    match xs, hlen with
    | [y0, y1, y2, y3, y4], _ =>
      simp only [Prod.mk.injEq] at hx
      have hw : ∀ k, (k ∈ y0.1.weights Try.prog 25 ∨ k ∈ y1.1.weights Try.prog 26 ∨ k ∈ y2.1.weights Try.prog 26 ∨ k ∈ y3.1.weights Try.prog 26 ∨ k ∈ y4.1.weights Try.prog 27) → k ≤ reachBytes := fun k hk => hsz k (by
        rw [hx.1]
        simp only [DataW.weights, Try.underlying29, List.map_cons, List.map_nil, DataW.weightsEach, List.mem_append]
        rcases hk with h | h | h | h | h <;> simp_all)
      have g0 := hff 0 _ rfl
      have g1 := hff 1 _ rfl
      have g2 := hff 2 _ rfl
      have g3 := hff 3 _ rfl
      have g4 := hff 4 _ rfl
      simp [Value.cells, Try.cells25, Try.cells26, Try.cellsM27] at g0 g1 g2 g3 g4
      obtain ⟨zs, k, _, hy, _, hlen2, hgg⟩ := DataW.trod_struct Try.underlying25 g0
      match zs, hlen2 with
      | [u0, u1], _ =>
        have j0 := hgg 0 _ rfl
        have j1 := hgg 1 _ rfl
        simp [Try.cells22, Try.cells23] at j0 j1
        obtain ⟨z0, z1, z2, z3, k2, _, r0, r1, r2, r3⟩ := trod_array4 Try.underlying23 Try.cellsN3 j1
        obtain ⟨s0, q0, _, _⟩ := DataW.trod_int Try.underlying3 r0
        obtain ⟨s1, q1, _, _⟩ := DataW.trod_int Try.underlying3 r1
        obtain ⟨s2, q2, _, _⟩ := DataW.trod_int Try.underlying3 r2
        obtain ⟨s3, q3, _, _⟩ := DataW.trod_int Try.underlying3 r3
        simp at q0 q1 q2 q3
        subst q0 q1 q2 q3
        obtain ⟨ao, c, hs, rfl, a1, a2, a3, a4, a5⟩ := holds_open j0 fun k hk => hw k (.inl (by
          rw [hy]
          simp only [DataW.weights, Try.underlying25, List.map_cons, List.map_nil, DataW.weightsEach, List.mem_append]
          exact .inl hk))
        obtain ⟨go, gc, gs, rfl, b1, b2, b3⟩ := ints_trod g1 fun k hk => hw k (.inr (.inl hk))
        obtain ⟨fo, fc, fs, rfl, f1, f2, f3⟩ := ints_trod g2 fun k hk => hw k (.inr (.inr (.inl hk)))
        obtain ⟨qo, qc, qs, rfl, d1, d2, d3⟩ := ints_trod g3 fun k hk => hw k (.inr (.inr (.inr (.inl hk))))
        obtain ⟨mo, mc, ms, rfl, m1, m2, m3, m4, m5⟩ := marks_open g4 fun k hk => hw k (.inr (.inr (.inr (.inr hk))))
        exact ⟨⟨⟨hs, s0, s1, s2, s3⟩, gs, fs, qs, ms⟩, ⟨ao, c, go, gc, fo, fc, qo, qc, mo, mc⟩, rfl, ⟨a1, ⟨a2, a3, a4⟩, b1, b2, f1, f2, d1, d2, m1, ⟨m2, m3, m4⟩⟩, ⟨by show (hs.length + 1) * 24 ≤ _; omega, by show gs.length * 8 ≤ _; omega, by show fs.length * 8 ≤ _; omega, by show (qs.length + 1) * 8 ≤ _; omega, by show ms.length * 24 ≤ _; omega⟩⟩
end Go.Proofs.Ytnhndieoaceofaa
