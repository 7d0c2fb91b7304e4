/- The law SieveTells walked. -/
import Derived.Test.YtmndhecbjpjamaaSvH
import Derived.Test.YtmndhecbjpjamaaSvK
import Derived.Lib.QuietBelow
namespace Go.Proofs.Ytmndhecbjpjamaa
open Go.RowKit

theorem LawAt.keep2 {w wi wj : World} {k n : Int} {key text : ByteArray} {m : Ms} {ao bo : Option Addr} {c d : Nat} (h : LawAt w wi k n key text m ao bo c d) (hm : MsAt w (.agg #[.int .i64 m.st, .string m.path, .slice ao m.heads.length c, .slice bo m.body.size d]) m) (b : Below (w.heap.size + 2) wi wj) : LawAt w wj k n key text m ao bo c d := by
  have bl : Below w.heap.size w wj := h.bl.trans (b.mono (by omega))
  have c0 := fun j => b.cell (p := ⟨w.heap.size, j, none⟩) (by show w.heap.size < w.heap.size + 2; omega)
  have c1 := fun j => b.cell (p := ⟨w.heap.size + 1, j, none⟩) (by show w.heap.size + 1 < w.heap.size + 2; omega)
  have hs := b.size
  have h1 := h.bm.lt
  have h2 := h.bs.lt
  exact ⟨⟨by rw [c0]; exact h.bs.c0, by rw [c0]; exact h.bs.c1, by rw [c0]; exact h.bs.c2, by rw [c0]; exact h.bs.c3, by omega⟩, ⟨by rw [c1]; exact h.bm.c0, by rw [c1]; exact h.bm.c1, by rw [c1]; exact h.bm.c2, by rw [c1]; exact h.bm.c3, by omega⟩, hm.below (Nat.le_refl _) bl, bl⟩
/-- A box that is written anew. -/
theorem BoxAt.put {w : World} {b : Nat} {x0 x1 x2 x3 : Value} (h : BoxAt w b x0 x1 x2 x3) (y0 y1 y2 y3 : Value) : BoxAt ((((w.setCell ⟨b, 0, none⟩ y0).setCell ⟨b, 1, none⟩ y1).setCell ⟨b, 2, none⟩ y2).setCell ⟨b, 3, none⟩ y3) b y0 y1 y2 y3 := by
  obtain ⟨c0, c1, c2, c3, lt⟩ := h
  exact ⟨by simp [go_sem, c0], by simp [go_sem, c1], by simp [go_sem, c2], by simp [go_sem, c3], by simpa using lt⟩
theorem below_put {w : World} {B b : Nat} (hb : B ≤ b) (y0 y1 y2 y3 : Value) : Below B w ((((w.setCell ⟨b, 0, none⟩ y0).setCell ⟨b, 1, none⟩ y1).setCell ⟨b, 2, none⟩ y2).setCell ⟨b, 3, none⟩ y3) :=
  (((((Below.refl B w).setCell hb y0).setCell hb y1).setCell hb y2).setCell hb y3)
theorem BoxAt.off {w : World} {a b : Nat} {x0 x1 x2 x3 : Value} (h : BoxAt w a x0 x1 x2 x3) (hn : a ≠ b) (y0 y1 y2 y3 : Value) : BoxAt ((((w.setCell ⟨b, 0, none⟩ y0).setCell ⟨b, 1, none⟩ y1).setCell ⟨b, 2, none⟩ y2).setCell ⟨b, 3, none⟩ y3) a x0 x1 x2 x3 := by
  obtain ⟨c0, c1, c2, c3, lt⟩ := h
  exact ⟨by simp [go_sem, c0], by simp [go_sem, c1], by simp [go_sem, c2], by simp [go_sem, c3], by simpa using lt⟩
theorem size_put (w : World) (b : Nat) (y0 y1 y2 y3 : Value) : ((((w.setCell ⟨b, 0, none⟩ y0).setCell ⟨b, 1, none⟩ y1).setCell ⟨b, 2, none⟩ y2).setCell ⟨b, 3, none⟩ y3).heap.size = w.heap.size := by simp
theorem New.put {base : Nat} {w : World} {v : Value} {m : Ms} (h : New base w v m) {b : Nat} (hb : b < base) (y0 y1 y2 y3 : Value) : New base ((((w.setCell ⟨b, 0, none⟩ y0).setCell ⟨b, 1, none⟩ y1).setCell ⟨b, 2, none⟩ y2).setCell ⟨b, 3, none⟩ y3) v m :=
  (((h.set (a := ⟨b, 0, none⟩) hb y0).set (a := ⟨b, 1, none⟩) hb y1).set (a := ⟨b, 2, none⟩) hb y2).set (a := ⟨b, 3, none⟩) hb y3
theorem Rides.put {base : Nat} {w : World} {v v' : Value} {m m' : Ms} (h : Rides base w v m v' m') {b : Nat} (hb : b < base) (y0 y1 y2 y3 : Value) : Rides base ((((w.setCell ⟨b, 0, none⟩ y0).setCell ⟨b, 1, none⟩ y1).setCell ⟨b, 2, none⟩ y2).setCell ⟨b, 3, none⟩ y3) v m v' m' :=
  (((h.set (a := ⟨b, 0, none⟩) hb y0).set (a := ⟨b, 1, none⟩) hb y1).set (a := ⟨b, 2, none⟩) hb y2).set (a := ⟨b, 3, none⟩) hb y3

/-- A block whose cells may be written. -/
def Free (w : World) (b : Nat) : Prop := ∀ j, w.frozen? ⟨b, j, none⟩ = false
theorem Free.keep {w w' : World} {b : Nat} (h : Free w b) (bl : Below w.heap.size w w') (hb : b < w.heap.size) : Free w' b := fun j => (bl.frozen (p := ⟨b, j, none⟩) hb).trans (h j)
theorem free_new (w : World) (x : Array Value) : Free (w.alloc (.cells x 27)) w.heap.size := fun j => by simp [go_sem]
theorem Free.put {w : World} {b : Nat} (h : Free w b) (a : Nat) (y0 y1 y2 y3 : Value) : Free ((((w.setCell ⟨a, 0, none⟩ y0).setCell ⟨a, 1, none⟩ y1).setCell ⟨a, 2, none⟩ y2).setCell ⟨a, 3, none⟩ y3) b := fun j => by
  simp only [World.frozen?_setCell]; exact h j

set_option maxRecDepth 100000 in
set_option maxHeartbeats 4000000 in
theorem stells_any (k n : Int) (key text : ByteArray) (m : Ms) (v : Value) (g : Int) (w : World) (hm : MsAt w v m) (hk : key.size ≤ maxLen) (ht : text.size ≤ maxLen) :
    Calls Try.prog 3 #[.agg #[.int .i64 k, .int .i64 n, .string key, .string text], v, .int .i64 g] w fun e w' => e = .returned (.bool true) ∧ Below w.heap.size w w' := by
  have HK : Hid (key.size ≤ maxLen ∧ text.size ≤ maxLen) := ⟨hk, ht⟩
  obtain ⟨⟨ao, c, bo, d, hv, _⟩, _, _⟩ := id hm
  subst hv
  have HM : Hid (MsAt w (.agg #[.int .i64 m.st, .string m.path, .slice ao m.heads.length c, .slice bo m.body.size d]) m) := hm
  have l0 := lawAt_new w k n key text m ao bo c d hm
  have L0 : Hid (LawAt w ((w.alloc (.cells #[.int .i64 k, .int .i64 n, .string key, .string text] 23)).alloc (.cells #[.int .i64 m.st, .string m.path, .slice ao m.heads.length c, .slice bo m.body.size d] 27)) k n key text m ao bo c d) := l0
  clear hk ht hm l0
  have g0 : ∀ dq os, (Sort.grow (redrawn ((w.alloc (.cells #[.int .i64 k, .int .i64 n, .string key, .string text] 23)).alloc (.cells #[.int .i64 m.st, .string m.path, .slice ao m.heads.length c, .slice bo m.body.size d] 27)) dq) os).cell? ⟨w.heap.size, 0, none⟩ = some (.int .i64 k) := fun dq os => cell_regrown L0.out.bs.c0 dq os
  have g1 : ∀ dq os, (Sort.grow (redrawn ((w.alloc (.cells #[.int .i64 k, .int .i64 n, .string key, .string text] 23)).alloc (.cells #[.int .i64 m.st, .string m.path, .slice ao m.heads.length c, .slice bo m.body.size d] 27)) dq) os).cell? ⟨w.heap.size, 1, none⟩ = some (.int .i64 n) := fun dq os => cell_regrown L0.out.bs.c1 dq os
  have g2 : ∀ dq os, (Sort.grow (redrawn ((w.alloc (.cells #[.int .i64 k, .int .i64 n, .string key, .string text] 23)).alloc (.cells #[.int .i64 m.st, .string m.path, .slice ao m.heads.length c, .slice bo m.body.size d] 27)) dq) os).cell? ⟨w.heap.size, 2, none⟩ = some (.string key) := fun dq os => cell_regrown L0.out.bs.c2 dq os
  have g3 : ∀ dq os, (Sort.grow (redrawn ((w.alloc (.cells #[.int .i64 k, .int .i64 n, .string key, .string text] 23)).alloc (.cells #[.int .i64 m.st, .string m.path, .slice ao m.heads.length c, .slice bo m.body.size d] 27)) dq) os).cell? ⟨w.heap.size, 3, none⟩ = some (.string text) := fun dq os => cell_regrown L0.out.bs.c3 dq os
  go_enter Try.func3, Try.ntmps3
  go_wp2_with fail
  refine wp_region_quiet_below Try.mixed (by kernel_rfl) ?_
  repeat (go_big_quiet_step (first | (go_at_call 6; exact Calls.regrown_of (swrong_any k n key text _ HK.out.1 HK.out.2)) | (go_at_call 7; exact Calls.regrown_of (rws_any k n key text _ HK.out.1 HK.out.2))))
  refine wpQuiet_nil ?_
  intro W1 hw'
  obtain ⟨⟨dq, osq⟩, hw''⟩ := hw'
  have L1 : Hid (LawAt w W1 k n key text m ao bo c d) := by rw [hw'']; exact L0.out.keep (below_regrown _ dq osq)
  clear hw'' L0 g0 g1 g2 g3
  by_cases g0 : g < -1000000
  · go_wp2
    go_ret
    exact ⟨rfl, L1.out.bl⟩
  have g0' : decide (g < -1000000) = false := by simpa using g0
  by_cases g1 : 1000000 < g
  · go_wp2
    go_ret
    exact ⟨rfl, L1.out.bl⟩
  have g1' : decide ((1000000 : Int) < g) = false := by simpa using g1
  obtain ⟨y0, y1, y2, y3, yl⟩ := L1.out.bm
  obtain ⟨x0, x1, x2, x3, xl⟩ := L1.out.bs
  go_wp2_with fail
  refine (ask_any k n key text m _ g _ L1.out.ms HK.out.1 HK.out.2 (by omega) (by omega)).mono ?_
  rintro e w2 ⟨vx, rfl, nx, b2⟩
  have R3 : Hid (∀ W : World, MsAt W (.agg #[.int .i64 m.st, .string m.path, .slice ao m.heads.length c, .slice bo m.body.size d]) m → Calls Try.prog 9 #[.agg #[.int .i64 k, .int .i64 n, .string key, .string text], .agg #[.int .i64 m.st, .string m.path, .slice ao m.heads.length c, .slice bo m.body.size d], .int .i64 g] W fun e w' => ∃ v', e = .returned (.tuple #[.int .i64 (askD k n key text m g), v', .int .i64 (askG k n g)]) ∧ Rides W.heap.size w' (.agg #[.int .i64 m.st, .string m.path, .slice ao m.heads.length c, .slice bo m.body.size d]) m v' (askM k n key text m g) ∧ Below W.heap.size W w') := fun W hW => rask_any k n key text m _ g W hW HK.out.1 HK.out.2 (by omega) (by omega)
  generalize askM k n key text m g = M at nx R3
  generalize askD k n key text m g = D at R3 ⊢
  generalize askG k n g = G at R3 ⊢
  obtain ⟨ao1, c1, bo1, d1, rfl⟩ := nx.shape
  have s2 : w.heap.size + 2 ≤ w2.heap.size := by have h1 := L1.out.bm.lt; have h2 := b2.size; omega
  have L2 : Hid (LawAt w w2 k n key text m ao bo c d) := L1.out.keep b2
  clear b2 L1 y0 y1 y2 y3 yl x0 x1 x2 x3 xl
  obtain ⟨W3, hW3⟩ : ∃ W3, w2.alloc (.cells #[.int .i64 (M).st, .string (M).path, .slice ao1 (M).heads.length c1, .slice bo1 (M).body.size d1] 27) = W3 := ⟨_, rfl⟩
  have al3 : Below w2.heap.size w2 W3 := by rw [← hW3]; exact (Below.refl _ _).alloc (Nat.le_refl _) _
  have L3 : Hid (LawAt w W3 k n key text m ao bo c d) := L2.out.keep al3
  have BA3 : Hid (BoxAt W3 w2.heap.size (.int .i64 (M).st) (.string (M).path) (.slice ao1 (M).heads.length c1) (.slice bo1 (M).body.size d1)) := by show BoxAt _ _ _ _ _ _; rw [← hW3]; exact boxAt_new w2 _ _ _ _ 27
  have X3 : Hid (MsAt W3 (.agg #[.int .i64 (M).st, .string (M).path, .slice ao1 (M).heads.length c1, .slice bo1 (M).body.size d1]) M) := nx.lies.below (Nat.le_refl _) al3
  have FA3 : Hid (Free W3 w2.heap.size) := by show Free _ _; rw [← hW3]; exact free_new w2 _
  have H3 : Hid (w2.alloc (.cells #[.int .i64 (M).st, .string (M).path, .slice ao1 (M).heads.length c1, .slice bo1 (M).body.size d1] 27) = W3) := hW3
  clear hW3 al3 nx
  obtain ⟨y0, y1, y2, y3, yl⟩ := L3.out.bm
  obtain ⟨x0, x1, x2, x3, xl⟩ := L3.out.bs
  obtain ⟨p0, p1, p2, p3, pl⟩ := L2.out.bm
  obtain ⟨q0, q1, q2, q3, ql⟩ := L2.out.bs
  go_wp2_with fail
  rw [H3.out]
  clear p0 p1 p2 p3 pl q0 q1 q2 q3 ql
  refine (R3.out W3 L3.out.ms).mono ?_
  rintro e w4 ⟨vy, rfl, rd, b4⟩
  have L4 : Hid (LawAt w w4 k n key text m ao bo c d) := L3.out.keep b4
  have my := rd.lies L4.out.ms
  obtain ⟨⟨ao2, c2, bo2, d2, rfl, _⟩, _, _⟩ := id my
  have s4 : w2.heap.size < w4.heap.size := by have h1 := BA3.out.lt; have h2 := b4.size; omega
  have BA4 : Hid (BoxAt w4 w2.heap.size (.int .i64 (M).st) (.string (M).path) (.slice ao1 (M).heads.length c1) (.slice bo1 (M).body.size d1)) := BA3.out.keep b4
  have FA4 : Hid (Free w4 w2.heap.size) := FA3.out.keep b4 BA3.out.lt
  have X4 : Hid (MsAt w4 (.agg #[.int .i64 (M).st, .string (M).path, .slice ao1 (M).heads.length c1, .slice bo1 (M).body.size d1]) M) := X3.out.below (Nat.le_refl _) b4
  clear b4 rd R3 L2 L3 BA3 X3 H3 FA3 y0 y1 y2 y3 yl x0 x1 x2 x3 xl
  obtain ⟨W5, hW5⟩ : ∃ W5, w4.alloc (.cells #[.int .i64 (M).st, .string (M).path, .slice ao2 (M).heads.length c2, .slice bo2 (M).body.size d2] 27) = W5 := ⟨_, rfl⟩
  have al5 : Below w4.heap.size w4 W5 := by rw [← hW5]; exact (Below.refl _ _).alloc (Nat.le_refl _) _
  have L5 : Hid (LawAt w W5 k n key text m ao bo c d) := L4.out.keep al5
  have BA5 : Hid (BoxAt W5 w2.heap.size (.int .i64 (M).st) (.string (M).path) (.slice ao1 (M).heads.length c1) (.slice bo1 (M).body.size d1)) := BA4.out.keep al5
  have BB5 : Hid (BoxAt W5 w4.heap.size (.int .i64 (M).st) (.string (M).path) (.slice ao2 (M).heads.length c2) (.slice bo2 (M).body.size d2)) := by show BoxAt _ _ _ _ _ _; rw [← hW5]; exact boxAt_new w4 _ _ _ _ 27
  have FA5 : Hid (Free W5 w2.heap.size) := FA4.out.keep al5 BA4.out.lt
  have FB5 : Hid (Free W5 w4.heap.size) := by show Free _ _; rw [← hW5]; exact free_new w4 _
  have X5 : Hid (MsAt W5 (.agg #[.int .i64 (M).st, .string (M).path, .slice ao1 (M).heads.length c1, .slice bo1 (M).body.size d1]) M) := X4.out.below (Nat.le_refl _) al5
  have Y5 : Hid (MsAt W5 (.agg #[.int .i64 (M).st, .string (M).path, .slice ao2 (M).heads.length c2, .slice bo2 (M).body.size d2]) M) := my.below (Nat.le_refl _) al5
  have H5 : Hid (w4.alloc (.cells #[.int .i64 (M).st, .string (M).path, .slice ao2 (M).heads.length c2, .slice bo2 (M).body.size d2] 27) = W5) := hW5
  clear hW5 al5 my L4 X4 FA4
  obtain ⟨p0, p1, p2, p3, pl⟩ := BA4.out
  go_wp2_with fail
  rw [H5.out]
  refine (rsame_any M M _ _ _ X5.out Y5.out).mono ?_
  rintro e w6 ⟨rfl, b6⟩
  rw [same_refl]
  have L6 : Hid (LawAt w w6 k n key text m ao bo c d) := L5.out.keep b6
  have BA6 : Hid (BoxAt w6 w2.heap.size (.int .i64 (M).st) (.string (M).path) (.slice ao1 (M).heads.length c1) (.slice bo1 (M).body.size d1)) := BA5.out.keep b6
  have BB6 : Hid (BoxAt w6 w4.heap.size (.int .i64 (M).st) (.string (M).path) (.slice ao2 (M).heads.length c2) (.slice bo2 (M).body.size d2)) := BB5.out.keep b6
  have FA6 : Hid (Free w6 w2.heap.size) := FA5.out.keep b6 BA5.out.lt
  have FB6 : Hid (Free w6 w4.heap.size) := FB5.out.keep b6 BB5.out.lt
  clear FA5 FB5 b6 L5 BA5 BB5 X5 Y5 H5 BA4 p0 p1 p2 p3 pl
  obtain ⟨y0, y1, y2, y3, yl⟩ := L6.out.bm
  obtain ⟨x0, x1, x2, x3, xl⟩ := L6.out.bs
  go_wp2_with fail
  refine (answers_any k n key text m _ g _ L6.out.ms HK.out.1 HK.out.2).mono ?_
  rintro e w7 ⟨vx, rfl, nx, b7⟩
  have R9 : Hid (∀ W : World, MsAt W (.agg #[.int .i64 m.st, .string m.path, .slice ao m.heads.length c, .slice bo m.body.size d]) m → Calls Try.prog 12 #[.agg #[.int .i64 k, .int .i64 n, .string key, .string text], .agg #[.int .i64 m.st, .string m.path, .slice ao m.heads.length c, .slice bo m.body.size d], .int .i64 g] W fun e w' => ∃ v', e = .returned (.tuple #[.int .i64 (ansD k n m g), v']) ∧ Rides W.heap.size w' (.agg #[.int .i64 m.st, .string m.path, .slice ao m.heads.length c, .slice bo m.body.size d]) m v' (ansM k key text m) ∧ Below W.heap.size W w') := fun W hW => rans_any k n key text m _ g W hW HK.out.1 HK.out.2
  generalize ansM k key text m = M' at nx R9
  generalize ansD k n m g = D' at R9 ⊢
  obtain ⟨ao3, c3, bo3, d3, rfl⟩ := nx.shape
  have s6 : w4.heap.size < w6.heap.size := BB6.out.lt
  have s7 := b7.size
  have L7 : Hid (LawAt w w7 k n key text m ao bo c d) := L6.out.keep b7
  have BA7 : Hid (BoxAt w7 w2.heap.size (.int .i64 (M).st) (.string (M).path) (.slice ao1 (M).heads.length c1) (.slice bo1 (M).body.size d1)) := BA6.out.keep b7
  have BB7 : Hid (BoxAt w7 w4.heap.size (.int .i64 (M).st) (.string (M).path) (.slice ao2 (M).heads.length c2) (.slice bo2 (M).body.size d2)) := BB6.out.keep b7
  have FA7 : Hid (Free w7 w2.heap.size) := FA6.out.keep b7 BA6.out.lt
  have FB7 : Hid (Free w7 w4.heap.size) := FB6.out.keep b7 BB6.out.lt
  clear FA6 FB6 b7 L6 BA6 BB6 y0 y1 y2 y3 yl x0 x1 x2 x3 xl
  obtain ⟨W8, hW8⟩ : ∃ W8, ((((w7).setCell ⟨w2.heap.size, 0, none⟩ (.int .i64 (M').st)).setCell ⟨w2.heap.size, 1, none⟩ (.string (M').path)).setCell ⟨w2.heap.size, 2, none⟩ (.slice ao3 (M').heads.length c3)).setCell ⟨w2.heap.size, 3, none⟩ (.slice bo3 (M').body.size d3) = W8 := ⟨_, rfl⟩
  have L8 : Hid (LawAt w W8 k n key text m ao bo c d) := by show LawAt _ _ _ _ _ _ _ _ _ _ _; rw [← hW8]; exact L7.out.keep2 HM.out (below_put s2 _ _ _ _)
  have BA8 : Hid (BoxAt W8 w2.heap.size (.int .i64 (M').st) (.string (M').path) (.slice ao3 (M').heads.length c3) (.slice bo3 (M').body.size d3)) := by show BoxAt _ _ _ _ _ _; rw [← hW8]; exact BA7.out.put _ _ _ _
  have BB8 : Hid (BoxAt W8 w4.heap.size (.int .i64 (M).st) (.string (M).path) (.slice ao2 (M).heads.length c2) (.slice bo2 (M).body.size d2)) := by show BoxAt _ _ _ _ _ _; rw [← hW8]; exact BB7.out.off (by omega) _ _ _ _
  have X8 : Hid (New w6.heap.size W8 (.agg #[.int .i64 (M').st, .string (M').path, .slice ao3 (M').heads.length c3, .slice bo3 (M').body.size d3]) M') := by show New _ _ _ _; rw [← hW8]; exact nx.put (by omega) _ _ _ _
  have FB8 : Hid (Free W8 w4.heap.size) := by show Free _ _; rw [← hW8]; exact FB7.out.put _ _ _ _ _
  have s8 : W8.heap.size = w7.heap.size := by rw [← hW8]; exact size_put _ _ _ _ _ _
  have H8 : Hid (((((w7).setCell ⟨w2.heap.size, 0, none⟩ (.int .i64 (M').st)).setCell ⟨w2.heap.size, 1, none⟩ (.string (M').path)).setCell ⟨w2.heap.size, 2, none⟩ (.slice ao3 (M').heads.length c3)).setCell ⟨w2.heap.size, 3, none⟩ (.slice bo3 (M').body.size d3) = W8) := hW8
  have S8 : Hid (W8.heap.size = w7.heap.size) := s8
  clear hW8 nx s8 FB7
  have fr7 : ∀ j, w7.frozen? ⟨w2.heap.size, j, none⟩ = false := FA7.out
  obtain ⟨p0, p1, p2, p3, pl⟩ := BA7.out
  obtain ⟨q0, q1, q2, q3, ql⟩ := L7.out.bs
  obtain ⟨r0, r1, r2, r3, rl⟩ := L7.out.bm
  go_wp2_with fail
  rw [H8.out]
  refine (R9.out W8 L8.out.ms).mono ?_
  rintro e w9 ⟨vy, rfl, rd, b9⟩
  have L9 : Hid (LawAt w w9 k n key text m ao bo c d) := L8.out.keep b9
  have my := rd.lies L9.out.ms
  obtain ⟨⟨ao4, c4, bo4, d4, rfl, _⟩, _, _⟩ := id my
  have BA9 : Hid (BoxAt w9 w2.heap.size (.int .i64 (M').st) (.string (M').path) (.slice ao3 (M').heads.length c3) (.slice bo3 (M').body.size d3)) := BA8.out.keep b9
  have BB9 : Hid (BoxAt w9 w4.heap.size (.int .i64 (M).st) (.string (M).path) (.slice ao2 (M).heads.length c2) (.slice bo2 (M).body.size d2)) := BB8.out.keep b9
  have X9 : Hid (New w6.heap.size w9 (.agg #[.int .i64 (M').st, .string (M').path, .slice ao3 (M').heads.length c3, .slice bo3 (M').body.size d3]) M') := X8.out.below b9
  have FB9 : Hid (Free w9 w4.heap.size) := FB8.out.keep b9 BB8.out.lt
  have s9 : w4.heap.size < W8.heap.size := BB8.out.lt
  have s10 : w7.heap.size ≤ w9.heap.size := by have h1 := b9.size; rw [S8.out] at h1; exact h1
  clear b9 my R9 L7 L8 BA7 BB7 BA8 BB8 X8 FA7 FB8 H8 fr7 p0 p1 p2 p3 pl q0 q1 q2 q3 ql r0 r1 r2 r3 rl
  obtain ⟨W10, hW10⟩ : ∃ W10, ((((w9).setCell ⟨w4.heap.size, 0, none⟩ (.int .i64 (M').st)).setCell ⟨w4.heap.size, 1, none⟩ (.string (M').path)).setCell ⟨w4.heap.size, 2, none⟩ (.slice ao4 (M').heads.length c4)).setCell ⟨w4.heap.size, 3, none⟩ (.slice bo4 (M').body.size d4) = W10 := ⟨_, rfl⟩
  have L10 : Hid (LawAt w W10 k n key text m ao bo c d) := by show LawAt _ _ _ _ _ _ _ _ _ _ _; rw [← hW10]; exact L9.out.keep2 HM.out (below_put (by omega) _ _ _ _)
  have X10 : Hid (MsAt W10 (.agg #[.int .i64 (M').st, .string (M').path, .slice ao3 (M').heads.length c3, .slice bo3 (M').body.size d3]) M') := by show MsAt _ _ _; rw [← hW10]; exact (X9.out.put s6 _ _ _ _).lies
  have Y10 : Hid (MsAt W10 (.agg #[.int .i64 (M').st, .string (M').path, .slice ao4 (M').heads.length c4, .slice bo4 (M').body.size d4]) M') := by
    show MsAt _ _ _
    have h := L10.out.ms
    rw [← hW10] at h ⊢
    exact (rd.put s9 _ _ _ _).lies h
  have H10 : Hid (((((w9).setCell ⟨w4.heap.size, 0, none⟩ (.int .i64 (M').st)).setCell ⟨w4.heap.size, 1, none⟩ (.string (M').path)).setCell ⟨w4.heap.size, 2, none⟩ (.slice ao4 (M').heads.length c4)).setCell ⟨w4.heap.size, 3, none⟩ (.slice bo4 (M').body.size d4) = W10) := hW10
  clear hW10 rd
  have fr9 : ∀ j, w9.frozen? ⟨w4.heap.size, j, none⟩ = false := FB9.out
  obtain ⟨p0, p1, p2, p3, pl⟩ := BA9.out
  obtain ⟨q0, q1, q2, q3, ql⟩ := BB9.out
  go_wp2_with fail
  rw [H10.out]
  refine (rsame_any M' M' _ _ _ X10.out Y10.out).mono ?_
  rintro e w11 ⟨rfl, b11⟩
  rw [same_refl]
  have L11 : Hid (LawAt w w11 k n key text m ao bo c d) := L10.out.keep b11
  clear b11 L10 X10 Y10 H10 L9 BA9 BB9 X9 FB9 fr9 p0 p1 p2 p3 pl q0 q1 q2 q3 ql
  go_wp2
  go_ret
  exact ⟨rfl, L11.out.bl⟩
end Go.Proofs.Ytmndhecbjpjamaa
