/- Package flat: a conf's table. -/
import Derived.Test.YtbpmcabeghbalaaFlB
namespace Go.Proofs.Ytbpmcabeghbalaa
open Go.RowKit

/-- Between the rounds of Lay: the boxes of the conf, of what is answered, of the table. -/
structure LayAt (w wr : World) (l : List Sv) (ao : Option Addr) (ac k : Nat) : Prop where
  t : ∀ j, j < 4 → ∃ v, wr.cell? ⟨w.heap.size + 2, j, none⟩ = some v ∧ (j < k → ∃ g, v = .slice (some ⟨g, 0, none⟩) l.length l.length ∧ w.heap.size + 2 < g ∧ VAt wr g ((rowL l ((j : Int) + 1)).map Value.bool))
  tz : ∀ j, wr.frozen? ⟨w.heap.size + 2, j, none⟩ = false
  r : ∀ j, j < 4 → ∃ v, wr.cell? ⟨w.heap.size + 1, j, none⟩ = some v
  rz : ∀ j, wr.frozen? ⟨w.heap.size + 1, j, none⟩ = false
  c : wr.cell? ⟨w.heap.size, 0, none⟩ = some (.slice ao l.length ac)
  s : w.heap.size + 2 < wr.heap.size
  b : Below w.heap.size w wr
theorem LayAt.put {w wr w' : World} {l : List Sv} {ao : Option Addr} {ac k : Nat} (h : LayAt w wr l ao ac k) (b : Below wr.heap.size wr w') (v : VAt w' wr.heap.size ((rowL l ((k : Int) + 1)).map Value.bool)) (hk : k < 3) :
    LayAt w (w'.setCell ⟨w.heap.size + 2, k, none⟩ (.slice (some ⟨wr.heap.size, 0, none⟩) l.length l.length)) l ao ac (k + 1) := by
  have s := h.s
  have sz := b.size
  refine ⟨fun j hj => ?_, fun j => ?_, fun j hj => ?_, fun j => ?_, ?_, by simp; omega, (h.b.trans (b.mono (by omega))).setCell (by show _ ≤ _ + 2; omega) _⟩
  · by_cases e : j = k
    · subst e
      obtain ⟨u, hu, -⟩ := h.t j hj
      exact ⟨_, World.cell?_setCell_same (h := (b.cell (p := ⟨w.heap.size + 2, j, none⟩) (by show w.heap.size + 2 < _; omega)).trans hu) .., fun _ => ⟨_, rfl, s, v.far _ _ _ (by omega)⟩⟩
    · obtain ⟨u, hu, hg⟩ := h.t j hj
      refine ⟨u, ?_, fun hjk => ?_⟩
      · rw [World.cell?_setCell_other (h := fun q => by injection q; omega) ..]
        exact (b.cell (p := ⟨w.heap.size + 2, j, none⟩) (by show w.heap.size + 2 < _; omega)).trans hu
      · obtain ⟨g, rfl, h2, h3⟩ := hg (by omega)
        exact ⟨g, rfl, h2, (h3.keep b h3.lt).far _ _ _ (by omega)⟩
  · simpa using (b.frozen (p := ⟨w.heap.size + 2, j, none⟩) (by show w.heap.size + 2 < _; omega)).trans (h.tz j)
  · obtain ⟨u, hu⟩ := h.r j hj
    refine ⟨u, ?_⟩
    rw [World.cell?_setCell_other (h := fun q => by injection q; omega) ..]
    exact (b.cell (p := ⟨w.heap.size + 1, j, none⟩) (by show w.heap.size + 1 < _; omega)).trans hu
  · simpa using (b.frozen (p := ⟨w.heap.size + 1, j, none⟩) (by show w.heap.size + 1 < _; omega)).trans (h.rz j)
  · rw [World.cell?_setCell_other (h := fun q => by injection q; omega) ..]
    exact (b.cell (p := ⟨w.heap.size, 0, none⟩) (by show w.heap.size < _; omega)).trans h.c
theorem LayAt.cell {w wr w' : World} {l : List Sv} {ao : Option Addr} {ac k : Nat} (h : LayAt w wr l ao ac k) (b : Below wr.heap.size wr w') (j : Nat) (hj : j < 4) : (∃ v, w'.cell? ⟨w.heap.size + 2, j, none⟩ = some v) ∧ w'.frozen? ⟨w.heap.size + 2, j, none⟩ = false := by
  have s := h.s
  obtain ⟨u, hu, -⟩ := h.t j hj
  exact ⟨⟨u, (b.cell (p := ⟨w.heap.size + 2, j, none⟩) (by show w.heap.size + 2 < _; omega)).trans hu⟩, (b.frozen (p := ⟨w.heap.size + 2, j, none⟩) (by show w.heap.size + 2 < _; omega)).trans (h.tz j)⟩
def zT : Value := .slice none 0 0
theorem lay_new (w : World) (l : List Sv) (ao : Option Addr) (ac : Nat) (o : Array Value) (h0 : o[0]? = some (.slice ao l.length ac)) :
    LayAt w (((w.alloc (.cells o 26)).alloc (.cells #[zT, zT, zT, zT] 34)).alloc (.cells #[zT, zT, zT, zT] 34)) l ao ac 0 := by
  refine ⟨fun j hj => ⟨zT, ?_, fun h => absurd h (Nat.not_lt_zero _)⟩, fun j => ?_, fun j hj => ⟨zT, ?_⟩, fun j => ?_, ?_, ?_, ?_⟩
  · match j, hj with
    | 0, _ => simp [go_sem]
    | 1, _ => simp [go_sem]
    | 2, _ => simp [go_sem]
    | 3, _ => simp [go_sem]
  · simp [go_sem]
  · match j, hj with
    | 0, _ => simp [go_sem]
    | 1, _ => simp [go_sem]
    | 2, _ => simp [go_sem]
    | 3, _ => simp [go_sem]
  · simp [go_sem]
  · simp [go_sem, h0]
  · simp
  · exact (((Below.refl _ _).alloc (Nat.le_refl _) _).alloc (by simp) _).alloc (by simp; omega) _

/-- A table as it lies in memory. -/
structure TabAt (w : World) (l : List Sv) (g0 g1 g2 gn : Nat) : Prop where
  v0 : VAt w g0 ((rowL l 1).map Value.bool)
  v1 : VAt w g1 ((rowL l 2).map Value.bool)
  v2 : VAt w g2 ((rowL l 3).map Value.bool)
  n : NxAt w gn (rowL l 1) l.length
theorem NxAt.far {w : World} {g d : Nat} {bs : List Bool} (h : NxAt w g bs d) (k j : Nat) (v : Value) (hk : g ≠ k) : NxAt (w.setCell ⟨k, j, none⟩ v) g bs d := by
  obtain ⟨L, x, hl, ha⟩ := h.v
  exact ⟨L, x.far k j v hk, hl, ha⟩
theorem TabAt.far {w : World} {l : List Sv} {g0 g1 g2 gn : Nat} (h : TabAt w l g0 g1 g2 gn) (k j : Nat) (v : Value) (h0 : k < g0) (h1 : k < g1) (h2 : k < g2) (hn : k < gn) : TabAt (w.setCell ⟨k, j, none⟩ v) l g0 g1 g2 gn :=
  ⟨h.v0.far k j v (by omega), h.v1.far k j v (by omega), h.v2.far k j v (by omega), h.n.far k j v (by omega)⟩
theorem TabAt.keep {w w' : World} {l : List Sv} {g0 g1 g2 gn B : Nat} (h : TabAt w l g0 g1 g2 gn) (b : Below B w w') (h0 : g0 < B) (h1 : g1 < B) (h2 : g2 < B) (hn : gn < B) : TabAt w' l g0 g1 g2 gn :=
  ⟨h.v0.keep b h0, h.v1.keep b h1, h.v2.keep b h2, h.n.keep b hn⟩
def tabV (n g0 g1 g2 gn : Nat) : Array Value := #[.slice (some ⟨g0, 0, none⟩) n n, .slice (some ⟨g1, 0, none⟩) n n, .slice (some ⟨g2, 0, none⟩) n n, .slice (some ⟨gn, 0, none⟩) (n + 1) (n + 1)]

set_option maxRecDepth 100000 in
set_option maxHeartbeats 1000000 in
theorem lay_any (c : Cf) (ao bo po : Option Addr) (ac bc pc : Nat) (w : World) (hl : RowsAt svL 4 w ao c.svs) (h6 : c.svs.length ≤ 6) :
    Calls Try.prog 5 #[.agg #[.slice ao c.svs.length ac, .slice bo c.ups.length bc, .slice po c.bds.length pc, .int .i64 c.fl, .int .i64 c.co, .int .i64 c.wa, .int .i64 c.ti]] w fun e w' => ∃ g0 g1 g2 gn, e = .returned (.agg (tabV c.svs.length g0 g1 g2 gn)) ∧ TabAt w' c.svs g0 g1 g2 gn ∧ Below w.heap.size w w' ∧ w.heap.size ≤ g0 ∧ w.heap.size ≤ g1 ∧ w.heap.size ≤ g2 ∧ w.heap.size ≤ gn := by
  have HL : Hid (RowsAt svL 4 w ao c.svs) := hl
  have L0 : Hid (LayAt w _ c.svs ao ac 0) := lay_new w c.svs ao ac #[.slice ao c.svs.length ac, .slice bo c.ups.length bc, .slice po c.bds.length pc, .int .i64 c.fl, .int .i64 c.co, .int .i64 c.wa, .int .i64 c.ti] rfl
  clear hl
  go_enter Try.func5, Try.ntmps5
  go_wp2
  go_loopw [5] (fun i wr => ∃ k : Nat, k ≤ 3 ∧ i = .int .i64 k ∧ Hid (LayAt w wr c.svs ao ac k)) (fun i _ => 3 - (intOf i).toNat)
  case atStart => exact ⟨0, by omega, rfl, L0⟩
  case round =>
    clear L0
    obtain ⟨k, hk, rfl, HB⟩ := hrel
    by_cases hlt : k < 3
    · have c0 := HB.out.c
      have S := HB.out.s
      have hlt' : (k : Int) < 3 := by omega
      have hk' : (k : Int) ≤ 6 := by omega
      go_wp2_with (go_at_call 9; refine (row_any c.svs ao ac ((k : Int) + 1) _ (HL.out.below (Nat.le_refl _) HB.out.b) h6).mono ?_; rintro e w' ⟨rfl, v', hb'⟩; have P1 : Hid (LayAt w _ c.svs ao ac (k + 1)) := HB.out.put hb' v' hlt; obtain ⟨⟨u, q1⟩, q2⟩ := HB.out.cell hb' k (by omega); clear v' hb')
      go_roundw
      case rel => exact ⟨k + 1, by omega, by go_num, P1⟩
      case measure => simp [intOf]; omega
    · obtain ⟨u0, a0, f0⟩ := HB.out.t 0 (by omega)
      obtain ⟨u1, a1, f1⟩ := HB.out.t 1 (by omega)
      obtain ⟨u2, a2, f2⟩ := HB.out.t 2 (by omega)
      obtain ⟨u3, a3, -⟩ := HB.out.t 3 (by omega)
      obtain ⟨g0, rfl, p0, v0⟩ := f0 (by omega)
      obtain ⟨g1, rfl, p1, v1⟩ := f1 (by omega)
      obtain ⟨g2, rfl, p2, v2⟩ := f2 (by omega)
      obtain ⟨r0, b0⟩ := HB.out.r 0 (by omega)
      obtain ⟨r1, b1⟩ := HB.out.r 1 (by omega)
      obtain ⟨r2, b2⟩ := HB.out.r 2 (by omega)
      obtain ⟨r3, b3⟩ := HB.out.r 3 (by omega)
      have HV : Hid (VAt wr g0 ((rowL c.svs 1).map Value.bool) ∧ VAt wr g1 ((rowL c.svs 2).map Value.bool) ∧ VAt wr g2 ((rowL c.svs 3).map Value.bool)) := ⟨v0, v1, v2⟩
      have HP : Hid (w.heap.size + 2 < g0 ∧ w.heap.size + 2 < g1 ∧ w.heap.size + 2 < g2) := ⟨p0, p1, p2⟩
      have S : Hid (w.heap.size + 2 < wr.heap.size) := HB.out.s
      have HN : Hid (Calls Try.prog 10 #[.slice (some ⟨g0, 0, none⟩) c.svs.length c.svs.length] wr fun e w' => e = .returned (.slice (some ⟨wr.heap.size, 0, none⟩) (c.svs.length + 1) (c.svs.length + 1)) ∧ NxAt w' wr.heap.size (rowL c.svs 1) c.svs.length ∧ Below wr.heap.size wr w') := by
        have el : (rowL c.svs 1).length = c.svs.length := by simp [rowL]
        have := nexts_any (rowL c.svs 1) g0 c.svs.length wr v0 (by omega)
        rw [el] at this
        exact this
      clear v0 v1 v2 f0 f1 f2 p0 p1 p2
      go_wp2_with fail
      refine HN.out.mono ?_
      rintro e w1 ⟨rfl, n1, bl⟩
      have Q : ∀ i j, i ≤ 2 → w1.cell? ⟨w.heap.size + i, j, none⟩ = wr.cell? ⟨w.heap.size + i, j, none⟩ := fun i j hi => bl.cell (p := ⟨w.heap.size + i, j, none⟩) (by have := S.out; show w.heap.size + i < _; omega)
      have Z : ∀ i j, i ≤ 2 → w1.frozen? ⟨w.heap.size + i, j, none⟩ = wr.frozen? ⟨w.heap.size + i, j, none⟩ := fun i j hi => bl.frozen (p := ⟨w.heap.size + i, j, none⟩) (by have := S.out; show w.heap.size + i < _; omega)
      have a0 := (Q 2 0 (by omega)).trans a0
      have a1 := (Q 2 1 (by omega)).trans a1
      have a2 := (Q 2 2 (by omega)).trans a2
      have a3 := (Q 2 3 (by omega)).trans a3
      have z2 : ∀ j, w1.frozen? ⟨w.heap.size + 2, j, none⟩ = false := fun j => (Z 2 j (by omega)).trans (HB.out.tz j)
      have b0 := (Q 1 0 (by omega)).trans b0
      have b1 := (Q 1 1 (by omega)).trans b1
      have b2 := (Q 1 2 (by omega)).trans b2
      have b3 := (Q 1 3 (by omega)).trans b3
      have z1 : ∀ j, w1.frozen? ⟨w.heap.size + 1, j, none⟩ = false := fun j => (Z 1 j (by omega)).trans (HB.out.rz j)
      have T1 : Hid (TabAt w1 c.svs g0 g1 g2 wr.heap.size) := ⟨HV.out.1.keep bl HV.out.1.lt, HV.out.2.1.keep bl HV.out.2.1.lt, HV.out.2.2.keep bl HV.out.2.2.lt, n1⟩
      have B1 : Hid (Below w.heap.size w w1) := HB.out.b.trans (bl.mono (by have := S.out; omega))
      clear Q Z bl n1 HN HB
      go_wp2
      obtain ⟨p0, p1, p2⟩ := HP.out
      have pn := S.out
      refine bodyPost_ret (v := .agg (tabV c.svs.length g0 g1 g2 wr.heap.size)) (by simp [results, Try.results5, go_sem, tabV, *]) rfl ⟨g0, g1, g2, wr.heap.size, rfl, ?_, ?_, by omega, by omega, by omega, by omega⟩
      · refine TabAt.far (TabAt.far (TabAt.far (TabAt.far (TabAt.far T1.out _ _ _ ?_ ?_ ?_ ?_) _ _ _ ?_ ?_ ?_ ?_) _ _ _ ?_ ?_ ?_ ?_) _ _ _ ?_ ?_ ?_ ?_) _ _ _ ?_ ?_ ?_ ?_ <;> omega
      · refine Below.setCell (Below.setCell (Below.setCell (Below.setCell (Below.setCell B1.out ?_ _) ?_ _) ?_ _) ?_ _) ?_ _ <;> simp <;> omega
end Go.Proofs.Ytbpmcabeghbalaa
