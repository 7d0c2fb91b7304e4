/- What the rows hand to the walks: a server, and a slice of marks, that came in. -/
import Derived.Test.YtkjpbjgepnbibaaWaA
import Derived.ProofKit
import Derived.OpenShut
import Derived.ShutString
import Derived.SizedLaws
import Derived.Deep.SlicePairs
import Derived.Laws.IdiomArrays
import Derived.Deep.DeepHandedRow
import Derived.Deep.DeepWitnessRowRef
import Derived.LaidMore
namespace Go.Proofs.Ytkjpbjgepnbibaa
open Go.ChangeShapes Go.WideShapes Go.ChangeAt Go.RowKit
set_option maxRecDepth 100000

theorem own : ownKnob Try.prog.godebug = none := by kernel_rfl
theorem laidOut : laidOutB Try.prog = true := by kernel_rfl
theorem add_none (b off j : Nat) : (⟨b, off, none⟩ : Addr).add j = ⟨b, off + j, none⟩ := by unfold Addr.add; split <;> simp_all
theorem spot_none {w : World} {a : Addr} {v : Value} (h : w.cell? a = some v) : a.spot = none := World.cell?_spot h
theorem Try.c3 : Try.prog.cellsOf 3 = 1 := by kernel_rfl
theorem Try.c4 : Try.prog.cellsOf 4 = 1 := by kernel_rfl
theorem Try.c9 : Try.prog.cellsOf 9 = 1 := by kernel_rfl
theorem Try.c22 : Try.prog.cellsOf 22 = 1 := by kernel_rfl
theorem Try.c23 : Try.prog.cellsOf 23 = 1 := by kernel_rfl
theorem Try.c24 : Try.prog.cellsOf 24 = 1 := by kernel_rfl
theorem Try.c26 : Try.prog.cellsOf 26 = 7 := by kernel_rfl
theorem Try.c27 : Try.prog.cellsOf 27 = 1 := by kernel_rfl
theorem Try.c28 : Try.prog.cellsOf 28 = 4 := by kernel_rfl
theorem Try.c30 : Try.prog.cellsOf 30 = 5 := by kernel_rfl
theorem Try.c31 : Try.prog.cellsOf 31 = 1 := by kernel_rfl
theorem Try.c32 : Try.prog.cellsOf 32 = 1 := by kernel_rfl
theorem Try.c34 : Try.prog.cellsOf 34 = 9 := by kernel_rfl
theorem Try.c35 : Try.prog.cellsOf 35 = 1 := by kernel_rfl
theorem Try.c37 : Try.prog.cellsOf 37 = 17 := by kernel_rfl
theorem Try.c40 : Try.prog.cellsOf 40 = 3 := by kernel_rfl
theorem Try.c46 : Try.prog.cellsOf 46 = 3 := by kernel_rfl
theorem Try.c54 : Try.prog.cellsOf 54 = 1 := by kernel_rfl
theorem Try.c55 : Try.prog.cellsOf 55 = 1 := by kernel_rfl
theorem Try.c57 : Try.prog.cellsOf 57 = 4 := by kernel_rfl
theorem Try.c58 : Try.prog.cellsOf 58 = 1 := by kernel_rfl
theorem Try.c60 : Try.prog.cellsOf 60 = 16 := by kernel_rfl
section
variable {H : Type} {enc : TypeId × Value → H} {W : World}
theorem sl_form {t e : TypeId} {fuel : Nat} {v : Value} {x : DataW H × List MemPlace} (ht : Try.prog.underlying t = some (.slice e)) (h : DataW.trod enc Try.prog W 0 (fun _ => true) true fuel t [v] = some x) : ∃ s : Sl, v = s.v := by
  rcases Deep.open_slice ht h with ⟨hcs, _⟩ | ⟨a, len, cap, m, n, D, Pl, hcs, _⟩
  · exact ⟨⟨none, 0, 0⟩, by simpa [Sl.v] using hcs⟩
  · exact ⟨⟨some a, len, cap⟩, by simpa [Sl.v] using hcs⟩
theorem in_form {fuel : Nat} {v : Value} {x : DataW H × List MemPlace} (h : DataW.trod enc Try.prog W 0 (fun _ => true) true fuel 3 [v] = some x) : ∃ n, v = .int .i64 n ∧ (Lit.int .i64 n).wf = true := by
  obtain ⟨s, q, _, hw⟩ := DataW.trod_int Try.underlying3 h
  exact ⟨s, by simpa using q, hw⟩
theorem st_form {fuel : Nat} {v : Value} {x : DataW H × List MemPlace} (h : DataW.trod enc Try.prog W 0 (fun _ => true) true fuel 9 [v] = some x) : ∃ s, v = .string s := by
  obtain ⟨s, q, _, _⟩ := DataW.trod_string Try.underlying9 h
  exact ⟨s, by simpa using q⟩
theorem bo_form {fuel : Nat} {v : Value} {x : DataW H × List MemPlace} (h : DataW.trod enc Try.prog W 0 (fun _ => true) true fuel 4 [v] = some x) : ∃ s, v = .bool s := by
  obtain ⟨s, q, _⟩ := DataW.trod_bool Try.underlying4 h
  exact ⟨s, by simpa using q⟩
theorem ms_form {fuel : Nat} {cs : List Value} {x : DataW H × List MemPlace} (h : DataW.trod enc Try.prog W 0 (fun _ => true) true fuel 57 cs = some x) : ∃ (n : Int) (p : ByteArray) (a b : Sl), cs = [.int .i64 n, .string p, a.v, b.v] := by
  obtain ⟨xs, k, hk, hxy, hl, hxl, hf⟩ := DataW.trod_struct Try.underlying57 h
  rw [Try.c57] at hl
  match xs, hxl, cs, hl with
  | [y0, y1, y2, y3], _, [v0, v1, v2, v3], _ =>
    have g0 := hf 0 _ rfl
    have g1 := hf 1 _ rfl
    have g2 := hf 2 _ rfl
    have g3 := hf 3 _ rfl
    simp [Try.c3, Try.c9, Try.c54, Try.c55] at g0 g1 g2 g3
    obtain ⟨n, rfl, _⟩ := in_form g0
    obtain ⟨p, rfl⟩ := st_form g1
    obtain ⟨a, rfl⟩ := sl_form Try.underlying54 g2
    obtain ⟨b, rfl⟩ := sl_form Try.underlying55 g3
    exact ⟨n, p, a, b, rfl⟩
theorem ho_form {fuel : Nat} {cs : List Value} {x : DataW H × List MemPlace} (h : DataW.trod enc Try.prog W 0 (fun _ => true) true fuel 46 cs = some x) : ∃ p : T3, cs = p.l ∧ True := by
  obtain ⟨xs, k, hk, hxy, hl, hxl, hf⟩ := DataW.trod_struct Try.underlying46 h
  rw [Try.c46] at hl
  match xs, hxl, cs, hl with
  | [y0, y1, y2], _, [v0, v1, v2], _ =>
    have g0 := hf 0 _ rfl
    have g1 := hf 1 _ rfl
    have g2 := hf 2 _ rfl
    simp [Try.c3] at g0 g1 g2
    obtain ⟨a, rfl, _⟩ := in_form g0
    obtain ⟨b, rfl, _⟩ := in_form g1
    obtain ⟨c, rfl, _⟩ := in_form g2
    exact ⟨⟨a, b, c⟩, rfl, trivial⟩
theorem ma_form {fuel : Nat} {cs : List Value} {x : DataW H × List MemPlace} (h : DataW.trod enc Try.prog W 0 (fun _ => true) true fuel 40 cs = some x) : ∃ p : T3, cs = p.l ∧ True := by
  obtain ⟨xs, k, hk, hxy, hl, hxl, hf⟩ := DataW.trod_struct Try.underlying40 h
  rw [Try.c40] at hl
  match xs, hxl, cs, hl with
  | [y0, y1, y2], _, [v0, v1, v2], _ =>
    have g0 := hf 0 _ rfl
    have g1 := hf 1 _ rfl
    have g2 := hf 2 _ rfl
    simp [Try.c3] at g0 g1 g2
    obtain ⟨a, rfl, _⟩ := in_form g0
    obtain ⟨b, rfl, _⟩ := in_form g1
    obtain ⟨c, rfl, _⟩ := in_form g2
    exact ⟨⟨a, b, c⟩, rfl, trivial⟩
theorem ii_form {fuel : Nat} {cs : List Value} {x : DataW H × List MemPlace} (h : DataW.trod enc Try.prog W 0 (fun _ => true) true fuel 3 cs = some x) : ∃ p : Int, cs = inl1 p ∧ (Lit.int .i64 p).wf = true := by
  obtain ⟨s, q, _, hw⟩ := DataW.trod_int Try.underlying3 h
  exact ⟨s, q, hw⟩
theorem fx_form {fuel : Nat} {cs : List Value} {x : DataW H × List MemPlace} (h : DataW.trod enc Try.prog W 0 (fun _ => true) true fuel 60 cs = some x) : ∃ f : Fx, cs = f.l ∧ True := by
  obtain ⟨xs, k, hk, hxy, hl, hxl, hf⟩ := DataW.trod_struct Try.underlying60 h
  rw [Try.c60] at hl
  match xs, hxl, cs, hl with
  | [y0, y1, y2, y3, y4, y5, y6, y7, y8, y9], _, [v0, v1, v2, v3, v4, v5, v6, v7, v8, v9, v10, v11, v12, v13, v14, v15], _ =>
    have g0 := hf 0 _ rfl
    have g1 := hf 1 _ rfl
    have g2 := hf 2 _ rfl
    have g3 := hf 3 _ rfl
    have g4 := hf 4 _ rfl
    have g5 := hf 5 _ rfl
    have g6 := hf 6 _ rfl
    have g7 := hf 7 _ rfl
    have g8 := hf 8 _ rfl
    have g9 := hf 9 _ rfl
    simp [Try.c3, Try.c4, Try.c57, Try.c31, Try.c58] at g0 g1 g2 g3 g4 g5 g6 g7 g8 g9
    obtain ⟨id, rfl, _⟩ := in_form g0
    obtain ⟨ph, rfl, _⟩ := in_form g1
    obtain ⟨po, rfl, _⟩ := in_form g2
    obtain ⟨a0, a1, a2, a3, e3⟩ := ms_form g3
    obtain ⟨b0, b1, b2, b3, e4⟩ := ms_form g4
    simp only [List.cons.injEq, and_true] at e3 e4
    obtain ⟨rfl, rfl, rfl, rfl⟩ := e3
    obtain ⟨rfl, rfl, rfl, rfl⟩ := e4
    obtain ⟨p0, rfl⟩ := sl_form Try.underlying31 g5
    obtain ⟨p1, rfl⟩ := sl_form Try.underlying31 g6
    obtain ⟨p2, rfl⟩ := sl_form Try.underlying58 g7
    obtain ⟨wt, rfl⟩ := bo_form g8
    obtain ⟨fa, rfl⟩ := bo_form g9
    exact ⟨⟨id, ph, po, a0, a1, a2, a3, b0, b1, b2, b3, p0, p1, p2, wt, fa⟩, rfl, trivial⟩
/-- A slice that came in, of what is known element by element. -/
theorem ls_open {α : Type} (c : α → List Value) (ce bytes : Nat) (d0 : α) {t e : TypeId} (good : α → Prop) (ht : Try.prog.underlying t = some (.slice e)) (hce : Try.prog.cellsOf e = ce) (hby : Try.prog.bytesOf e = bytes)
    (hel : ∀ (n : Nat) cs y, DataW.trod enc Try.prog W 0 (fun _ => true) true n e cs = some y → ∃ p, cs = c p ∧ good p) (hlen : ∀ p, (c p).length = ce) (h0 : 0 < ce) {fuel : Nat} {v : Value} {x : DataW H × List MemPlace} (h : DataW.trod enc Try.prog W 0 (fun _ => true) true fuel t [v] = some x) (hsz : ∀ n ∈ x.1.weights Try.prog t, n ≤ reachBytes) :
    ∃ s : Ls α, v = s.v ∧ RowsAt c ce W s.o s.l ∧ (∀ p ∈ s.l, good p) ∧ s.l.length * bytes ≤ 140737488351232 := by
  rcases Deep.open_slice ht h with ⟨hcs, _⟩ | ⟨a, len, cap, m, n, D, Pl, hcs, _, hl, hm, hmm, hx, hxs⟩
  · exact ⟨⟨[], none, 0⟩, by simpa [Ls.v] using hcs, ⟨fun i h => absurd h (by simp)⟩, (fun p hp => by cases hp), by simp⟩
  · have hmc : m = cap := by simpa using hmm
    have each : ∀ i, ∃ p : α, i < m → good p ∧ ∀ j v, (c p)[j]? = some v → W.cell? (a.add (i * ce + j)) = some v := by
      intro i
      by_cases hi : i < m
      · obtain ⟨cs', h1, h2⟩ := hxs i hi
        obtain ⟨p, rfl, hg⟩ := hel _ _ _ h2
        refine ⟨p, fun _ => ⟨hg, fun j v hj => ?_⟩⟩
        rw [hce] at h1
        obtain ⟨_, _, hcell⟩ := World.cells?_some h1
        have hj' : j < ce := by
          have := (List.getElem?_eq_some_iff.1 hj).1
          rw [hlen] at this
          exact this
        have := hcell j hj'
        rw [Deep.add_add] at this
        rw [this, hj]
      · exact ⟨d0, fun h => absurd h hi⟩
    obtain ⟨f, hf⟩ := Classical.axiomOfChoice each
    have hlen' : ((List.range len).map f).length = len := by simp
    refine ⟨⟨(List.range len).map f, some a, cap⟩, by unfold Ls.v; rw [hlen']; simpa using hcs, ⟨fun i hi => ?_⟩, fun p hp => ?_, ?_⟩
    · have hi' : i < len := by simpa using hi
      obtain ⟨_, he⟩ := hf i (by omega)
      have first : ∀ p : α, ∃ v, (c p)[0]? = some v := fun p => ⟨_, List.getElem?_eq_getElem (by rw [hlen]; exact h0)⟩
      obtain ⟨v0, hv0⟩ := first (f i)
      have e0 := he 0 v0 hv0
      have hsp : a.spot = none := by
        obtain ⟨v1, hv1⟩ := first (f 0)
        have := spot_none ((hf 0 (by omega)).2 0 v1 hv1)
        simpa [Addr.add] using this
      obtain ⟨b, off, spot⟩ := a
      obtain rfl : spot = none := hsp
      have ei : ((List.range len).map f)[i] = f i := by simp
      rw [add_none] at e0
      refine ⟨b, off, rfl, block_lt_of_cell e0, fun j v hj => ?_⟩
      rw [ei] at hj
      have e1 := he j v hj
      rw [add_none] at e1
      rw [Nat.add_assoc]
      exact e1
    · obtain ⟨i, hi, rfl⟩ := List.mem_map.1 hp
      exact (hf i (by have := List.mem_range.1 hi; omega)).1
    · have := hsz ((len + (m - len)) * bytes) (by
        rw [hx]
        simp only [DataW.weights, ht, hby, List.length_map, List.length_range]
        exact List.mem_cons_self ..)
      show ((List.range len).map f).length * bytes ≤ _
      rw [hlen']
      have e : reachBytes = 140737488351232 := rfl
      rw [e] at this
      exact Nat.le_trans (Nat.mul_le_mul_right _ (by omega)) this
theorem server_open {base : Nat} {v : Value} {d : DataW H} {p : List MemPlace} (hv : Value.okWide Try.prog W .any base 37 v) (h : DataW.Trod enc Try.prog W 0 (fun _ => true) true 37 v d p) (hsz : ∀ n ∈ d.weights Try.prog 37, n ≤ reachBytes) :
    ∃ s : Srv, v = .agg (srL s).toArray ∧ (mfH s).L W ∧ (mfQ s).L W ∧ (mfM s).L W ∧ (mfF s).L W ∧ Fit s ∧ ∀ x ∈ s.q.l, (Lit.int .i64 x).wf = true := by
  obtain ⟨cs, rfl, hc⟩ := okWide_struct Try.underlying37 hv
  have hc17 : cs.size = 17 := hc.trans Try.c37
  obtain ⟨l⟩ := cs
  match l, hc17 with
  | [c0, c1, c2, c3, c4, c5, c6, c7, c8, c9, c10, c11, c12, c13, c14, c15, c16], _ =>
    obtain ⟨fuel, hf⟩ := h
    obtain ⟨xs, n, _, hx, _, hlen, hff⟩ := DataW.trod_struct Try.underlying37 hf
    match xs, hlen with
    | [yc, yw, yf], _ =>
      simp only [Prod.mk.injEq] at hx
      have hw : ∀ k, (k ∈ yw.1.weights Try.prog 34 ∨ k ∈ yf.1.weights Try.prog 35) → k ≤ reachBytes := fun k hk => hsz k (by
        rw [hx.1]
        simp only [DataW.weights, Try.underlying37, List.map_cons, List.map_nil, DataW.weightsEach, List.mem_append]
        rcases hk with h | h <;> simp_all)
      have g0 := hff 0 _ rfl
      have g1 := hff 1 _ rfl
      have g2 := hff 2 _ rfl
      simp [Value.cells, Try.c26, Try.c34, Try.c35] at g0 g1 g2
      obtain ⟨cx, n1, _, hcx, _, hcl, hcf⟩ := DataW.trod_struct Try.underlying26 g0
      match cx, hcl with
      | [u0, u1, u2, u3, u4, u5, u6], _ =>
        have j0 := hcf 0 _ rfl
        have j1 := hcf 1 _ rfl
        have j2 := hcf 2 _ rfl
        have j3 := hcf 3 _ rfl
        have j4 := hcf 4 _ rfl
        have j5 := hcf 5 _ rfl
        have j6 := hcf 6 _ rfl
        simp [Try.c22, Try.c23, Try.c24, Try.c3] at j0 j1 j2 j3 j4 j5 j6
        obtain ⟨s0, rfl⟩ := sl_form Try.underlying22 j0
        obtain ⟨s1, rfl⟩ := sl_form Try.underlying23 j1
        obtain ⟨s2, rfl⟩ := sl_form Try.underlying24 j2
        obtain ⟨f3, rfl, _⟩ := in_form j3
        obtain ⟨f4, rfl, _⟩ := in_form j4
        obtain ⟨f5, rfl, _⟩ := in_form j5
        obtain ⟨f6, rfl, _⟩ := in_form j6
        obtain ⟨wx, n2, _, hwx, _, hwl, hwf⟩ := DataW.trod_struct Try.underlying34 g1
        match wx, hwl with
        | [t0, t1, t2, t3, t4], _ =>
          have hw2 : ∀ k, (k ∈ t0.1.weights Try.prog 30 ∨ k ∈ t3.1.weights Try.prog 31 ∨ k ∈ t4.1.weights Try.prog 32) → k ≤ reachBytes := fun k hk => hw k (.inl (by
            rw [hwx]
            simp only [DataW.weights, Try.underlying34, List.map_cons, List.map_nil, DataW.weightsEach, List.mem_append]
            rcases hk with h | h | h <;> simp_all))
          have k0 := hwf 0 _ rfl
          have k1 := hwf 1 _ rfl
          have k2 := hwf 2 _ rfl
          have k3 := hwf 3 _ rfl
          have k4 := hwf 4 _ rfl
          simp [Try.c30, Try.c31, Try.c32] at k0 k1 k2 k3 k4
          obtain ⟨lx, n3, _, hlx, _, hll, hlf⟩ := DataW.trod_struct Try.underlying30 k0
          match lx, hll with
          | [w0, w1], _ =>
            have m0 := hlf 0 _ rfl
            have m1 := hlf 1 _ rfl
            simp [Try.c27, Try.c28] at m0 m1
            obtain ⟨z0, z1, z2, z3, _, _, r0, r1, r2, r3⟩ := trod_array4 Try.underlying28 Try.c3 m1
            obtain ⟨a0, rfl, _⟩ := in_form r0
            obtain ⟨a1, rfl, _⟩ := in_form r1
            obtain ⟨a2, rfl, _⟩ := in_form r2
            obtain ⟨a3, rfl, _⟩ := in_form r3
            obtain ⟨hs, rfl, lh, _, bh⟩ := ls_open T3.l 3 24 ⟨0, 0, 0⟩ (fun _ => True) Try.underlying27 Try.c46 (by kernel_rfl) (fun n cs y h => ho_form h) (fun _ => rfl) (by decide) m0 fun k hk => hw2 k (.inl (by
              rw [hlx]
              simp only [DataW.weights, Try.underlying30, List.map_cons, List.map_nil, DataW.weightsEach, List.mem_append]
              exact .inl hk))
            obtain ⟨gg, rfl⟩ := sl_form Try.underlying31 k1
            obtain ⟨ff, rfl⟩ := sl_form Try.underlying31 k2
            obtain ⟨qq, rfl, lq, wq, bq⟩ := ls_open inl1 1 8 0 (fun x => (Lit.int .i64 x).wf = true) Try.underlying31 Try.c3 (by kernel_rfl) (fun n cs y h => ii_form h) (fun _ => rfl) (by decide) k3 fun k hk => hw2 k (.inr (.inl hk))
            obtain ⟨mm, rfl, lm, _, bm⟩ := ls_open T3.l 3 24 ⟨0, 0, 0⟩ (fun _ => True) Try.underlying32 Try.c40 (by kernel_rfl) (fun n cs y h => ma_form h) (fun _ => rfl) (by decide) k4 fun k hk => hw2 k (.inr (.inr hk))
            obtain ⟨fl, rfl, lf, _, bf⟩ := ls_open Fx.l 16 248 ⟨0, 0, 0, 0, ⟨#[]⟩, ⟨none, 0, 0⟩, ⟨none, 0, 0⟩, 0, ⟨#[]⟩, ⟨none, 0, 0⟩, ⟨none, 0, 0⟩, ⟨none, 0, 0⟩, ⟨none, 0, 0⟩, ⟨none, 0, 0⟩, false, false⟩ (fun _ => True) Try.underlying35 Try.c60 (by kernel_rfl) (fun n cs y h => fx_form h) (fun _ => rfl) (by decide) g2 fun k hk => hw k (.inr hk)
            exact ⟨⟨s0, s1, s2, f3, f4, f5, f6, hs, a0, a1, a2, a3, gg, ff, qq, mm, fl⟩, rfl, lh, lq, lm, lf, ⟨by show hs.l.length ≤ _; omega, by show qq.l.length ≤ _; omega, by show mm.l.length ≤ _; omega, by show fl.l.length ≤ _; omega⟩, wq⟩
theorem marks_open {base : Nat} {v : Value} {d : DataW H} {p : List MemPlace} (hv : Value.okWide Try.prog W .any base 32 v) (h : DataW.Trod enc Try.prog W 0 (fun _ => true) true 32 v d p) (hsz : ∀ n ∈ d.weights Try.prog 32, n ≤ reachBytes) :
    ∃ s : Ls T3, v = s.v ∧ (mfL T3.l 3 s).L W ∧ s.l.length ≤ 5864062014634 := by
  obtain ⟨a0, l0, c0, rfl⟩ := okWide_slice Try.underlying32 hv
  obtain ⟨fuel, hf⟩ := h
  obtain ⟨mm, e, lm, _, bm⟩ := ls_open T3.l 3 24 ⟨0, 0, 0⟩ (fun _ => True) Try.underlying32 Try.c40 (by kernel_rfl) (fun n cs y h => ma_form h) (fun _ => rfl) (by decide) (v := .slice a0 l0 c0) hf hsz
  exact ⟨mm, e, lm, by omega⟩
end
end Go.Proofs.Ytkjpbjgepnbibaa
