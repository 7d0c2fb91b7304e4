/- Walks of package guard's broken and caught. -/
import Derived.Test.YtfpaoalfkmpjpabDoorGuardD
import Derived.Deep.RegionHeld
namespace Go.Proofs.YtfpaoalfkmpjpabDoor
open Go.RowKit Go.Stop

/-! What a cause is found to be. -/
theorem isStr9 (t : ByteArray) (xT : TypeId) (w : World) : (Instr.typeAssert (.iface 9 (.string t)) xT 9 true).run Tryd.prog w = .ok (.tuple #[.string t, .bool true]) w := by kernel_rfl
theorem noStr42 (v : Value) (xT : TypeId) (w : World) : (Instr.typeAssert (.iface 42 v) xT 9 true).run Tryd.prog w = .ok (.tuple #[.string ⟨#[]⟩, .bool false]) w := by kernel_rfl
theorem noStr35 (v : Value) (xT : TypeId) (w : World) : (Instr.typeAssert (.iface 35 v) xT 9 true).run Tryd.prog w = .ok (.tuple #[.string ⟨#[]⟩, .bool false]) w := by kernel_rfl
theorem isErr42 (v : Value) (xT : TypeId) (w : World) : (Instr.typeAssert (.iface 42 v) xT 32 true).run Tryd.prog w = .ok (.tuple #[.iface 42 v, .bool true]) w := run_typeAssert_hasB Tryd.underlying32 (by kernel_rfl) v xT w
theorem isErr35 (v : Value) (xT : TypeId) (w : World) : (Instr.typeAssert (.iface 35 v) xT 32 true).run Tryd.prog w = .ok (.tuple #[.iface 35 v, .bool true]) w := run_typeAssert_hasB Tryd.underlying32 (by kernel_rfl) v xT w

theorem setF_cell (W : World) (b : Nat) (k fi ca inn : Int) (s : ByteArray) (p : Addr) (h : b ≠ p.block) : (setF W b k fi ca inn s).cell? p = W.cell? p := by
  unfold setF
  rw [World.cell?_setCell_far _ _ _ _ h, World.cell?_setCell_far _ _ _ _ h, World.cell?_setCell_far _ _ _ _ h, World.cell?_setCell_far _ _ _ _ h, World.cell?_setCell_far _ _ _ _ h]
theorem setF_frozen (W : World) (b : Nat) (k fi ca inn : Int) (s : ByteArray) (p : Addr) : (setF W b k fi ca inn s).frozen? p = W.frozen? p := by
  unfold setF
  simp
theorem setF_size (W : World) (b : Nat) (k fi ca inn : Int) (s : ByteArray) : (setF W b k fi ca inn s).heap.size = W.heap.size := by
  unfold setF
  simp
theorem setF_at (W : World) (b : Nat) (k fi ca inn : Int) (s : ByteArray) {c0 c1 c2 c3 c4 : Value} (h0 : W.cell? ⟨b, 0, none⟩ = some c0) (h1 : W.cell? ⟨b, 1, none⟩ = some c1) (h2 : W.cell? ⟨b, 2, none⟩ = some c2) (h3 : W.cell? ⟨b, 3, none⟩ = some c3) (h4 : W.cell? ⟨b, 4, none⟩ = some c4) :
    (setF W b k fi ca inn s).cell? ⟨b, 0, none⟩ = some (.int .i64 k) ∧ (setF W b k fi ca inn s).cell? ⟨b, 1, none⟩ = some (.int .i64 fi) ∧ (setF W b k fi ca inn s).cell? ⟨b, 2, none⟩ = some (.int .i64 ca) ∧ (setF W b k fi ca inn s).cell? ⟨b, 3, none⟩ = some (.string s) ∧ (setF W b k fi ca inn s).cell? ⟨b, 4, none⟩ = some (.int .i64 inn) := by
  unfold setF
  refine ⟨?_, ?_, ?_, ?_, ?_⟩ <;> simp [go_sem, h0, h1, h2, h3, h4]
theorem below_setF {B : Nat} {a W : World} (h : Below B a W) {b : Nat} (hb : B ≤ b) (k fi ca inn : Int) (s : ByteArray) : Below B a (setF W b k fi ca inn s) := by
  unfold setF
  exact ((((h.setCell (p := ⟨b, 0, none⟩) hb _).setCell (p := ⟨b, 1, none⟩) hb _).setCell (p := ⟨b, 2, none⟩) hb _).setCell (p := ⟨b, 3, none⟩) hb _).setCell (p := ⟨b, 4, none⟩) hb _

theorem broken_fatal (w : World) : Calls Tryd.prog 13 #[.iface 42 (.int .i64 3)] w fun e w' => e = .returned (fltV 3 0 0 0 ⟨#[]⟩) ∧ Below w.heap.size w w' := by
  go_enter Tryd.func13, Tryd.ntmps13
  go_wp2_with (go_at_call 20; refine (errorsIs_self 3 _).mono ?_; rintro e w' ⟨rfl, rfl⟩)
  refine bodyPost_ret (v := fltV 3 0 0 0 ⟨#[]⟩) (by simp [results, Tryd.results13, go_sem, fltV]) rfl ⟨rfl, ?_⟩
  exact (Below.refl _ _).alloc (Nat.le_refl _) _

set_option maxHeartbeats 1000000 in
theorem broken_wrap (t : ByteArray) (w : World) (hg : Glob w) : Calls Tryd.prog 13 #[.iface 35 (fltV 1 (-1) 0 0 t)] w fun e w' => e = .returned (fltV 2 0 0 1 t) ∧ Below w.heap.size w w' := by
  have HG : Hid (Glob w) := hg
  clear hg
  go_enter Tryd.func13, Tryd.ntmps13
  go_wp2_with fail
  refine (errorsIs_bare 1 (-1) 0 3 t _ (by decide)).mono ?_
  rintro e w1 ⟨rfl, b1⟩
  have s1 := b1.size
  simp only [World.size_alloc] at s1
  have B1 : Hid (Below w.heap.size w w1) := (((Below.refl _ _).alloc (Nat.le_refl _) _).trans (b1.mono (by simp)) : Below w.heap.size w w1)
  have x0 : w1.cell? ⟨w.heap.size, 0, none⟩ = some (.int .i64 0) := by rw [b1.cell (by simp)]; simp
  have x1 : w1.cell? ⟨w.heap.size, 1, none⟩ = some (.int .i64 0) := by rw [b1.cell (by simp)]; simp
  have x2 : w1.cell? ⟨w.heap.size, 2, none⟩ = some (.int .i64 0) := by rw [b1.cell (by simp)]; simp
  have x3 : w1.cell? ⟨w.heap.size, 3, none⟩ = some (.string ⟨#[]⟩) := by rw [b1.cell (by simp)]; simp
  have x4 : w1.cell? ⟨w.heap.size, 4, none⟩ = some (.int .i64 0) := by rw [b1.cell (by simp)]; simp
  have xf : ∀ j, w1.frozen? ⟨w.heap.size, j, none⟩ = false := fun j => by rw [b1.frozen (by simp)]; simp
  clear b1
  go_wp2_with fail
  refine (as_hit 1 (-1) 0 0 t w1.heap.size _ ?_ (.int .i64 0) (.int .i64 0) (.int .i64 0) (.string ⟨#[]⟩) (.int .i64 0) (by simp) (by simp) (by simp) (by simp) (by simp) (fun j => by simp)).mono ?_
  · exact HG.out.below (B1.out.alloc (by omega) _) HG.out.pos
  rintro e w2 ⟨rfl, W4, b4, rfl⟩
  have s4 := b4.size
  simp only [World.size_alloc] at s4
  have B4 : Hid (Below w.heap.size w (setF W4 w1.heap.size 1 (-1) 0 0 t)) := (below_setF ((B1.out.alloc (by omega) _).trans (b4.mono (by simp; omega))) (by omega) _ _ _ _ _ : Below w.heap.size w _)
  obtain ⟨y0, y1, y2, y3, y4⟩ := setF_at W4 w1.heap.size 1 (-1) 0 0 t (c0 := .int .i64 0) (c1 := .int .i64 0) (c2 := .int .i64 0) (c3 := .string ⟨#[]⟩) (c4 := .int .i64 0) (by rw [b4.cell (by simp)]; simp) (by rw [b4.cell (by simp)]; simp) (by rw [b4.cell (by simp)]; simp) (by rw [b4.cell (by simp)]; simp) (by rw [b4.cell (by simp)]; simp)
  have z : ∀ j, (setF W4 w1.heap.size 1 (-1) 0 0 t).cell? ⟨w.heap.size, j, none⟩ = w1.cell? ⟨w.heap.size, j, none⟩ := fun j => by
    rw [setF_cell _ _ _ _ _ _ _ _ (by simp; omega), b4.cell (by simp; omega), World.cell?_alloc_lt _ _ _ (by simp; omega)]
  have zf : ∀ j, (setF W4 w1.heap.size 1 (-1) 0 0 t).frozen? ⟨w.heap.size, j, none⟩ = false := fun j => by
    rw [setF_frozen, b4.frozen (by simp; omega), World.frozen?_alloc_old _ _ _ (by simp; omega)]; exact xf j
  obtain ⟨W5, hW5⟩ : ∃ W5, setF W4 w1.heap.size 1 (-1) 0 0 t = W5 := ⟨_, rfl⟩
  have z0 := (z 0).trans x0
  have z1 := (z 1).trans x1
  have z2 := (z 2).trans x2
  have z3 := (z 3).trans x3
  have z4 := (z 4).trans x4
  rw [hW5] at y0 y1 y2 y3 y4 z0 z1 z2 z3 z4 zf B4
  clear z x0 x1 x2 x3 x4 xf b4 s4
  rw [hW5]
  clear hW5
  go_wp2
  refine bodyPost_ret (v := fltV 2 0 0 1 t) (by simp [results, Tryd.results13, go_sem, fltV, z0, z1, z2, z3, z4]) rfl ⟨rfl, ?_⟩
  iterate 5 (refine Below.setCell ?_ (by simp) _)
  exact B4.out

theorem caught_text (t : ByteArray) (w : World) : Calls Tryd.prog 10 #[.iface 9 (.string t)] w fun e w' => e = .returned (fltV 2 0 0 0 t) ∧ Below w.heap.size w w' := by
  have q := isStr9
  go_enter Tryd.func10, Tryd.ntmps10
  go_wp2
  refine bodyPost_ret (v := fltV 2 0 0 0 t) (by simp [results, Tryd.results10, go_sem, fltV]) rfl ⟨rfl, ?_⟩
  exact (Below.refl _ _).alloc (Nat.le_refl _) _

theorem caught_fatal (w : World) : Calls Tryd.prog 10 #[.iface 42 (.int .i64 3)] w fun e w' => e = .returned (fltV 3 0 0 0 ⟨#[]⟩) ∧ Below w.heap.size w w' := by
  have q := noStr42
  have q2 := isErr42
  go_enter Tryd.func10, Tryd.ntmps10
  go_wp2_with fail
  refine (broken_fatal _).mono ?_
  rintro e w1 ⟨rfl, b1⟩
  have x : ∀ j, w1.cell? ⟨w.heap.size, j, none⟩ = (w.alloc (.cells #[.int .i64 0, .int .i64 0, .int .i64 0, .string ⟨#[]⟩, .int .i64 0] 23)).cell? ⟨w.heap.size, j, none⟩ := fun j => b1.cell (by simp)
  have xf : ∀ j, w1.frozen? ⟨w.heap.size, j, none⟩ = false := fun j => by rw [b1.frozen (by simp)]; simp
  have B1 : Hid (Below w.heap.size w w1) := (((Below.refl _ _).alloc (Nat.le_refl _) _).trans (b1.mono (by simp)) : Below w.heap.size w w1)
  clear b1
  unfold fltV
  go_wp2
  refine bodyPost_ret (v := .agg #[.int .i64 3, .int .i64 0, .int .i64 0, .string ⟨#[]⟩, .int .i64 0]) (by simp [results, Tryd.results10, go_sem, x]) rfl ⟨rfl, ?_⟩
  iterate 5 (refine Below.setCell ?_ (by simp) _)
  exact B1.out

theorem caught_wrap (t : ByteArray) (w : World) (hg : Glob w) : Calls Tryd.prog 10 #[.iface 35 (fltV 1 (-1) 0 0 t)] w fun e w' => e = .returned (fltV 2 0 0 1 t) ∧ Below w.heap.size w w' := by
  have HG : Hid (Glob w) := hg
  clear hg
  have q := noStr35
  have q2 := isErr35
  go_enter Tryd.func10, Tryd.ntmps10
  go_wp2_with fail
  refine (broken_wrap t _ (HG.out.below ((Below.refl _ _).alloc (Nat.le_refl _) _) HG.out.pos)).mono ?_
  rintro e w1 ⟨rfl, b1⟩
  have x : ∀ j, w1.cell? ⟨w.heap.size, j, none⟩ = (w.alloc (.cells #[.int .i64 0, .int .i64 0, .int .i64 0, .string ⟨#[]⟩, .int .i64 0] 23)).cell? ⟨w.heap.size, j, none⟩ := fun j => b1.cell (by simp)
  have xf : ∀ j, w1.frozen? ⟨w.heap.size, j, none⟩ = false := fun j => by rw [b1.frozen (by simp)]; simp
  have B1 : Hid (Below w.heap.size w w1) := (((Below.refl _ _).alloc (Nat.le_refl _) _).trans (b1.mono (by simp)) : Below w.heap.size w w1)
  clear b1
  unfold fltV
  go_wp2
  refine bodyPost_ret (v := .agg #[.int .i64 2, .int .i64 0, .int .i64 0, .string t, .int .i64 1]) (by simp [results, Tryd.results10, go_sem, x]) rfl ⟨rfl, ?_⟩
  iterate 5 (refine Below.setCell ?_ (by simp) _)
  exact B1.out
end Go.Proofs.YtfpaoalfkmpjpabDoor
