/- Package sieve: what filters' methods do. -/
import Derived.Test.YtmndhecbjpjamaaSvA
namespace Go.Proofs.Ytmndhecbjpjamaa
open Go.RowKit

/-- Three boxes of a call's own. -/
theorem below3 (w : World) (o o' o'' : Obj) : Below w.heap.size w (((w.alloc o).alloc o').alloc o'') := (below2 w o o').alloc (by simp; omega) _
theorem box3 {H : Nat} {W w1 : World} (b : Below (H + 3) W w1) : (∀ j, w1.cell? ⟨H, j, none⟩ = W.cell? ⟨H, j, none⟩) ∧ (∀ j, w1.cell? ⟨H + 1, j, none⟩ = W.cell? ⟨H + 1, j, none⟩) ∧ (∀ j, w1.cell? ⟨H + 1 + 1, j, none⟩ = W.cell? ⟨H + 1 + 1, j, none⟩) ∧ (∀ j, w1.frozen? ⟨H + 1 + 1, j, none⟩ = W.frozen? ⟨H + 1 + 1, j, none⟩) :=
  ⟨fun j => b.cell (p := ⟨H, j, none⟩) (by show H < H + 3; omega), fun j => b.cell (p := ⟨H + 1, j, none⟩) (by show H + 1 < H + 3; omega),
   fun j => b.cell (p := ⟨H + 1 + 1, j, none⟩) (by show H + 1 + 1 < H + 3; omega), fun j => b.frozen (p := ⟨H + 1 + 1, j, none⟩) (by show H + 1 + 1 < H + 3; omega)⟩

set_option maxHeartbeats 1000000 in
theorem setAsk_any (key text : ByteArray) (m : Ms) (v : Value) (g : Int) (w : World) (hm : MsAt w v m) (hkey : key.size ≤ maxLen) (ht : text.size ≤ maxLen) :
    Calls Try.prog 49 #[.agg #[.string key, .string text], v, .int .i64 g] w fun e w' => ∃ v', e = .returned (.tuple #[.int .i64 0, v', .int .i64 g]) ∧ New w.heap.size w' v' (setM m key text) ∧ Below w.heap.size w w' := by
  have hm' := fun o o' o'' => hm.below (Nat.le_refl _) (below3 w o o' o'')
  obtain ⟨⟨ao0, c0, bo0, d0, rfl, a1, _⟩, _, _⟩ := hm
  have HK : Hid (key.size ≤ maxLen ∧ text.size ≤ maxLen) := ⟨hkey, ht⟩
  clear hkey ht
  go_enter Try.func49, Try.ntmps49
  go_wp2_with fail
  refine (set_any m key text _ _ (hm' _ _ _) HK.out.1 HK.out.2).mono ?_
  rintro e w1 ⟨v', rfl, ms, fr, bl⟩
  have nw : New _ w1 v' (setM m key text) := ⟨ms, fr⟩
  clear ms fr
  obtain ⟨ao, c, bo, d, rfl⟩ := nw.shape
  have bl2 : Below (w.heap.size + 3) _ w1 := bl.mono (by simp)
  obtain ⟨hc1, hd1, he1, hf1⟩ := box3 bl2
  have hs1 := bl2.size
  simp at hs1
  have NW : Hid (New (w.heap.size + 3) w1 _ (setM m key text)) := nw.mono (by simp)
  have BL : Hid (Below w.heap.size w w1) := (below3 w _ _ _).trans (bl2.mono (by omega))
  clear nw bl bl2 hm'
  go_wp2
  refine bodyPost_ret (v := .tuple #[.int .i64 0, .agg #[.int .i64 (setM m key text).st, .string (setM m key text).path, .slice ao (setM m key text).heads.length c, .slice bo (setM m key text).body.size d], .int .i64 g]) (by simp [results, Try.results49, go_sem, he1]) rfl ⟨_, rfl, ?_, ?_⟩
  · refine New.mono (base := w.heap.size + 3) ?_ (by omega)
    iterate 4 (refine New.set ?_ (by show w.heap.size + 1 + 1 < w.heap.size + 3; omega) _)
    exact NW.out
  · iterate 4 (refine Below.setCell ?_ (by show w.heap.size ≤ w.heap.size + 1 + 1; omega) _)
    exact BL.out

set_option maxHeartbeats 1000000 in
theorem markAnswer_any (key text : ByteArray) (m : Ms) (v : Value) (g : Int) (w : World) (hm : MsAt w v m) (hkey : key.size ≤ maxLen) (ht : text.size ≤ maxLen) :
    Calls Try.prog 54 #[.agg #[.string key, .string text], v, .int .i64 g] w fun e w' => ∃ v', e = .returned (.tuple #[.int .i64 0, v']) ∧ New w.heap.size w' v' (setM m key text) ∧ Below w.heap.size w w' := by
  have hm' := fun o o' o'' => hm.below (Nat.le_refl _) (below3 w o o' o'')
  obtain ⟨⟨ao0, c0, bo0, d0, rfl, a1, _⟩, _, _⟩ := hm
  have HK : Hid (key.size ≤ maxLen ∧ text.size ≤ maxLen) := ⟨hkey, ht⟩
  clear hkey ht
  go_enter Try.func54, Try.ntmps54
  go_wp2_with fail
  refine (set_any m key text _ _ (hm' _ _ _) HK.out.1 HK.out.2).mono ?_
  rintro e w1 ⟨v', rfl, ms, fr, bl⟩
  have nw : New _ w1 v' (setM m key text) := ⟨ms, fr⟩
  clear ms fr
  obtain ⟨ao, c, bo, d, rfl⟩ := nw.shape
  have bl2 : Below (w.heap.size + 3) _ w1 := bl.mono (by simp)
  obtain ⟨hc1, hd1, he1, hf1⟩ := box3 bl2
  have hs1 := bl2.size
  simp at hs1
  have NW : Hid (New (w.heap.size + 3) w1 _ (setM m key text)) := nw.mono (by simp)
  have BL : Hid (Below w.heap.size w w1) := (below3 w _ _ _).trans (bl2.mono (by omega))
  clear nw bl bl2 hm'
  go_wp2
  refine bodyPost_ret (v := .tuple #[.int .i64 0, .agg #[.int .i64 (setM m key text).st, .string (setM m key text).path, .slice ao (setM m key text).heads.length c, .slice bo (setM m key text).body.size d]]) (by simp [results, Try.results54, go_sem, he1]) rfl ⟨_, rfl, ?_, ?_⟩
  · refine New.mono (base := w.heap.size + 3) ?_ (by omega)
    iterate 4 (refine New.set ?_ (by show w.heap.size + 1 + 1 < w.heap.size + 3; omega) _)
    exact NW.out
  · iterate 4 (refine Below.setCell ?_ (by show w.heap.size ≤ w.heap.size + 1 + 1; omega) _)
    exact BL.out

set_option maxHeartbeats 1000000 in
theorem asksAsk_any (m : Ms) (v : Value) (g : Int) (w : World) (hm : MsAt w v m) :
    Calls Try.prog 64 #[.agg #[], v, .int .i64 g] w fun e w' => ∃ v', e = .returned (.tuple #[.int .i64 0, v', .int .i64 g]) ∧ New w.heap.size w' v' m ∧ Below w.heap.size w w' := by
  have hm' := fun o o' o'' => hm.below (Nat.le_refl _) (below3 w o o' o'')
  obtain ⟨⟨ao0, c0, bo0, d0, rfl, a1, _⟩, _, _⟩ := hm
  go_enter Try.func64, Try.ntmps64
  go_wp2_with fail
  refine (goIn_any m _ g _ (hm' _ _ _)).mono ?_
  rintro e w1 ⟨v', rfl, nw, bl⟩
  obtain ⟨ao, c, bo, d, rfl⟩ := nw.shape
  have bl2 : Below (w.heap.size + 3) _ w1 := bl.mono (by simp)
  obtain ⟨hc1, hd1, he1, hf1⟩ := box3 bl2
  have hs1 := bl2.size
  simp at hs1
  have NW : Hid (New (w.heap.size + 3) w1 _ m) := nw.mono (by simp)
  have BL : Hid (Below w.heap.size w w1) := (below3 w _ _ _).trans (bl2.mono (by omega))
  clear nw bl bl2 hm'
  go_wp2
  refine bodyPost_ret (v := .tuple #[.int .i64 0, .agg #[.int .i64 (m).st, .string (m).path, .slice ao (m).heads.length c, .slice bo (m).body.size d], .int .i64 g]) (by simp [results, Try.results64, go_sem, he1]) rfl ⟨_, rfl, ?_, ?_⟩
  · refine New.mono (base := w.heap.size + 3) ?_ (by omega)
    iterate 4 (refine New.set ?_ (by show w.heap.size + 1 + 1 < w.heap.size + 3; omega) _)
    exact NW.out
  · iterate 4 (refine Below.setCell ?_ (by show w.heap.size ≤ w.heap.size + 1 + 1; omega) _)
    exact BL.out

set_option maxHeartbeats 1000000 in
theorem answersAnswer_any (m : Ms) (v : Value) (g : Int) (w : World) (hm : MsAt w v m) :
    Calls Try.prog 65 #[.agg #[], v, .int .i64 g] w fun e w' => ∃ v', e = .returned (.tuple #[.int .i64 0, v']) ∧ New w.heap.size w' v' m ∧ Below w.heap.size w w' := by
  have hm' := fun o o' o'' => hm.below (Nat.le_refl _) (below3 w o o' o'')
  obtain ⟨⟨ao0, c0, bo0, d0, rfl, a1, _⟩, _, _⟩ := hm
  go_enter Try.func65, Try.ntmps65
  go_wp2_with fail
  refine (goOut_any m _ _ (hm' _ _ _)).mono ?_
  rintro e w1 ⟨v', rfl, nw, bl⟩
  obtain ⟨ao, c, bo, d, rfl⟩ := nw.shape
  have bl2 : Below (w.heap.size + 3) _ w1 := bl.mono (by simp)
  obtain ⟨hc1, hd1, he1, hf1⟩ := box3 bl2
  have hs1 := bl2.size
  simp at hs1
  have NW : Hid (New (w.heap.size + 3) w1 _ m) := nw.mono (by simp)
  have BL : Hid (Below w.heap.size w w1) := (below3 w _ _ _).trans (bl2.mono (by omega))
  clear nw bl bl2 hm'
  go_wp2
  refine bodyPost_ret (v := .tuple #[.int .i64 0, .agg #[.int .i64 (m).st, .string (m).path, .slice ao (m).heads.length c, .slice bo (m).body.size d]]) (by simp [results, Try.results65, go_sem, he1]) rfl ⟨_, rfl, ?_, ?_⟩
  · refine New.mono (base := w.heap.size + 3) ?_ (by omega)
    iterate 4 (refine New.set ?_ (by show w.heap.size + 1 + 1 < w.heap.size + 3; omega) _)
    exact NW.out
  · iterate 4 (refine Below.setCell ?_ (by show w.heap.size ≤ w.heap.size + 1 + 1; omega) _)
    exact BL.out

set_option maxHeartbeats 1000000 in
theorem limitAsk_stop (n k : Int) (m : Ms) (v : Value) (g : Int) (w : World) (hm : MsAt w v m) (h : n < (m.body.size : Int)) :
    Calls Try.prog 60 #[.agg #[.int .i64 n, .int .i64 k], v, .int .i64 g] w fun e w' => ∃ v', e = .returned (.tuple #[.int .i64 1, v', .int .i64 g]) ∧ New w.heap.size w' v' (sayM 413 ⟨#[108, 105, 109, 105, 116]⟩) ∧ Below w.heap.size w w' := by
  have hm' := fun o o' o'' => hm.below (Nat.le_refl _) (below3 w o o' o'')
  obtain ⟨⟨ao0, c0, bo0, d0, rfl, a1, _⟩, _, _⟩ := hm
  go_enter Try.func60, Try.ntmps60
  go_wp2_with fail
  refine (stop_any 413 ⟨#[108, 105, 109, 105, 116]⟩ g _ (by decide)).mono ?_
  rintro e w1 ⟨v', rfl, nw, bl⟩
  obtain ⟨ao, c, bo, d, rfl⟩ := nw.shape
  have bl2 : Below (w.heap.size + 3) _ w1 := bl.mono (by simp)
  obtain ⟨hc1, hd1, he1, hf1⟩ := box3 bl2
  have hs1 := bl2.size
  simp at hs1
  have NW : Hid (New (w.heap.size + 3) w1 _ (sayM 413 ⟨#[108, 105, 109, 105, 116]⟩)) := nw.mono (by simp)
  have BL : Hid (Below w.heap.size w w1) := (below3 w _ _ _).trans (bl2.mono (by omega))
  clear nw bl bl2 hm'
  go_wp2
  refine bodyPost_ret (v := .tuple #[.int .i64 1, .agg #[.int .i64 (sayM 413 ⟨#[108, 105, 109, 105, 116]⟩).st, .string (sayM 413 ⟨#[108, 105, 109, 105, 116]⟩).path, .slice ao (sayM 413 ⟨#[108, 105, 109, 105, 116]⟩).heads.length c, .slice bo (sayM 413 ⟨#[108, 105, 109, 105, 116]⟩).body.size d], .int .i64 g]) (by simp [results, Try.results60, go_sem, he1]) rfl ⟨_, rfl, ?_, ?_⟩
  · refine New.mono (base := w.heap.size + 3) ?_ (by omega)
    iterate 4 (refine New.set ?_ (by show w.heap.size + 1 + 1 < w.heap.size + 3; omega) _)
    exact NW.out
  · iterate 4 (refine Below.setCell ?_ (by show w.heap.size ≤ w.heap.size + 1 + 1; omega) _)
    exact BL.out

set_option maxHeartbeats 1000000 in
theorem limitAsk_goes (n k : Int) (m : Ms) (v : Value) (g : Int) (w : World) (hm : MsAt w v m) (h : ¬ n < (m.body.size : Int)) :
    Calls Try.prog 60 #[.agg #[.int .i64 n, .int .i64 k], v, .int .i64 g] w fun e w' => ∃ v', e = .returned (.tuple #[.int .i64 0, v', .int .i64 g]) ∧ New w.heap.size w' v' m ∧ Below w.heap.size w w' := by
  have hm' := fun o o' o'' => hm.below (Nat.le_refl _) (below3 w o o' o'')
  obtain ⟨⟨ao0, c0, bo0, d0, rfl, a1, _⟩, _, _⟩ := hm
  go_enter Try.func60, Try.ntmps60
  go_wp2_with fail
  refine (goIn_any m _ g _ (hm' _ _ _)).mono ?_
  rintro e w1 ⟨v', rfl, nw, bl⟩
  obtain ⟨ao, c, bo, d, rfl⟩ := nw.shape
  have bl2 : Below (w.heap.size + 3) _ w1 := bl.mono (by simp)
  obtain ⟨hc1, hd1, he1, hf1⟩ := box3 bl2
  have hs1 := bl2.size
  simp at hs1
  have NW : Hid (New (w.heap.size + 3) w1 _ m) := nw.mono (by simp)
  have BL : Hid (Below w.heap.size w w1) := (below3 w _ _ _).trans (bl2.mono (by omega))
  clear nw bl bl2 hm'
  go_wp2
  refine bodyPost_ret (v := .tuple #[.int .i64 0, .agg #[.int .i64 (m).st, .string (m).path, .slice ao (m).heads.length c, .slice bo (m).body.size d], .int .i64 g]) (by simp [results, Try.results60, go_sem, he1]) rfl ⟨_, rfl, ?_, ?_⟩
  · refine New.mono (base := w.heap.size + 3) ?_ (by omega)
    iterate 4 (refine New.set ?_ (by show w.heap.size + 1 + 1 < w.heap.size + 3; omega) _)
    exact NW.out
  · iterate 4 (refine Below.setCell ?_ (by show w.heap.size ≤ w.heap.size + 1 + 1; omega) _)
    exact BL.out

set_option maxHeartbeats 1000000 in
theorem gateAsk_stop (n k : Int) (m : Ms) (v : Value) (g : Int) (w : World) (hm : MsAt w v m) (h : n ≤ g) :
    Calls Try.prog 61 #[.agg #[.int .i64 n, .int .i64 k], v, .int .i64 g] w fun e w' => ∃ v', e = .returned (.tuple #[.int .i64 1, v', .int .i64 g]) ∧ New w.heap.size w' v' (sayM 429 ⟨#[103, 97, 116, 101]⟩) ∧ Below w.heap.size w w' := by
  have hm' := fun o o' o'' => hm.below (Nat.le_refl _) (below3 w o o' o'')
  obtain ⟨⟨ao0, c0, bo0, d0, rfl, a1, _⟩, _, _⟩ := hm
  go_enter Try.func61, Try.ntmps61
  go_wp2_with fail
  refine (stop_any 429 ⟨#[103, 97, 116, 101]⟩ g _ (by decide)).mono ?_
  rintro e w1 ⟨v', rfl, nw, bl⟩
  obtain ⟨ao, c, bo, d, rfl⟩ := nw.shape
  have bl2 : Below (w.heap.size + 3) _ w1 := bl.mono (by simp)
  obtain ⟨hc1, hd1, he1, hf1⟩ := box3 bl2
  have hs1 := bl2.size
  simp at hs1
  have NW : Hid (New (w.heap.size + 3) w1 _ (sayM 429 ⟨#[103, 97, 116, 101]⟩)) := nw.mono (by simp)
  have BL : Hid (Below w.heap.size w w1) := (below3 w _ _ _).trans (bl2.mono (by omega))
  clear nw bl bl2 hm'
  go_wp2
  refine bodyPost_ret (v := .tuple #[.int .i64 1, .agg #[.int .i64 (sayM 429 ⟨#[103, 97, 116, 101]⟩).st, .string (sayM 429 ⟨#[103, 97, 116, 101]⟩).path, .slice ao (sayM 429 ⟨#[103, 97, 116, 101]⟩).heads.length c, .slice bo (sayM 429 ⟨#[103, 97, 116, 101]⟩).body.size d], .int .i64 g]) (by simp [results, Try.results61, go_sem, he1]) rfl ⟨_, rfl, ?_, ?_⟩
  · refine New.mono (base := w.heap.size + 3) ?_ (by omega)
    iterate 4 (refine New.set ?_ (by show w.heap.size + 1 + 1 < w.heap.size + 3; omega) _)
    exact NW.out
  · iterate 4 (refine Below.setCell ?_ (by show w.heap.size ≤ w.heap.size + 1 + 1; omega) _)
    exact BL.out

set_option maxHeartbeats 1000000 in
theorem gateAsk_goes (n k : Int) (m : Ms) (v : Value) (g : Int) (w : World) (hm : MsAt w v m) (h : ¬ n ≤ g) (h1 : -1000000 ≤ g) (h2 : g ≤ 1000000) :
    Calls Try.prog 61 #[.agg #[.int .i64 n, .int .i64 k], v, .int .i64 g] w fun e w' => ∃ v', e = .returned (.tuple #[.int .i64 0, v', .int .i64 (g + 1)]) ∧ New w.heap.size w' v' m ∧ Below w.heap.size w w' := by
  have hm' := fun o o' o'' => hm.below (Nat.le_refl _) (below3 w o o' o'')
  obtain ⟨⟨ao0, c0, bo0, d0, rfl, a1, _⟩, _, _⟩ := hm
  go_enter Try.func61, Try.ntmps61
  go_wp2_with fail
  refine (goIn_any m _ (g + 1) _ (hm' _ _ _)).mono ?_
  rintro e w1 ⟨v', rfl, nw, bl⟩
  obtain ⟨ao, c, bo, d, rfl⟩ := nw.shape
  have bl2 : Below (w.heap.size + 3) _ w1 := bl.mono (by simp)
  obtain ⟨hc1, hd1, he1, hf1⟩ := box3 bl2
  have hs1 := bl2.size
  simp at hs1
  have NW : Hid (New (w.heap.size + 3) w1 _ m) := nw.mono (by simp)
  have BL : Hid (Below w.heap.size w w1) := (below3 w _ _ _).trans (bl2.mono (by omega))
  clear nw bl bl2 hm'
  go_wp2
  refine bodyPost_ret (v := .tuple #[.int .i64 0, .agg #[.int .i64 (m).st, .string (m).path, .slice ao (m).heads.length c, .slice bo (m).body.size d], .int .i64 (g + 1)]) (by simp [results, Try.results61, go_sem, he1]) rfl ⟨_, rfl, ?_, ?_⟩
  · refine New.mono (base := w.heap.size + 3) ?_ (by omega)
    iterate 4 (refine New.set ?_ (by show w.heap.size + 1 + 1 < w.heap.size + 3; omega) _)
    exact NW.out
  · iterate 4 (refine Below.setCell ?_ (by show w.heap.size ≤ w.heap.size + 1 + 1; omega) _)
    exact BL.out

set_option maxHeartbeats 1000000 in
theorem retryAnswer_again (n k : Int) (m : Ms) (v : Value) (g : Int) (w : World) (hm : MsAt w v m) (h : 500 ≤ m.st) (h2 : g < n) :
    Calls Try.prog 62 #[.agg #[.int .i64 n, .int .i64 k], v, .int .i64 g] w fun e w' => ∃ v', e = .returned (.tuple #[.int .i64 6, v']) ∧ New w.heap.size w' v' m ∧ Below w.heap.size w w' := by
  have hm' := fun o o' o'' => hm.below (Nat.le_refl _) (below3 w o o' o'')
  obtain ⟨⟨ao0, c0, bo0, d0, rfl, a1, _⟩, _, _⟩ := hm
  go_enter Try.func62, Try.ntmps62
  go_wp2_with fail
  refine (own_new m _ _ (hm' _ _ _)).mono ?_
  rintro e w1 ⟨v', rfl, nw, bl⟩
  obtain ⟨ao, c, bo, d, rfl⟩ := nw.shape
  have bl2 : Below (w.heap.size + 3) _ w1 := bl.mono (by simp)
  obtain ⟨hc1, hd1, he1, hf1⟩ := box3 bl2
  have hs1 := bl2.size
  simp at hs1
  have NW : Hid (New (w.heap.size + 3) w1 _ m) := nw.mono (by simp)
  have BL : Hid (Below w.heap.size w w1) := (below3 w _ _ _).trans (bl2.mono (by omega))
  clear nw bl bl2 hm'
  go_wp2
  refine bodyPost_ret (v := .tuple #[.int .i64 6, .agg #[.int .i64 (m).st, .string (m).path, .slice ao (m).heads.length c, .slice bo (m).body.size d]]) (by simp [results, Try.results62, go_sem, he1]) rfl ⟨_, rfl, ?_, ?_⟩
  · refine New.mono (base := w.heap.size + 3) ?_ (by omega)
    iterate 4 (refine New.set ?_ (by show w.heap.size + 1 + 1 < w.heap.size + 3; omega) _)
    exact NW.out
  · iterate 4 (refine Below.setCell ?_ (by show w.heap.size ≤ w.heap.size + 1 + 1; omega) _)
    exact BL.out

set_option maxHeartbeats 1000000 in
theorem retryAnswer_goes1 (n k : Int) (m : Ms) (v : Value) (g : Int) (w : World) (hm : MsAt w v m) (h : ¬ 500 ≤ m.st) :
    Calls Try.prog 62 #[.agg #[.int .i64 n, .int .i64 k], v, .int .i64 g] w fun e w' => ∃ v', e = .returned (.tuple #[.int .i64 0, v']) ∧ New w.heap.size w' v' m ∧ Below w.heap.size w w' := by
  have hm' := fun o o' o'' => hm.below (Nat.le_refl _) (below3 w o o' o'')
  obtain ⟨⟨ao0, c0, bo0, d0, rfl, a1, _⟩, _, _⟩ := hm
  have h1 : decide (500 ≤ m.st) = false := by simpa using h
  go_enter Try.func62, Try.ntmps62
  go_wp2_with fail
  refine (goOut_any m _ _ (hm' _ _ _)).mono ?_
  rintro e w1 ⟨v', rfl, nw, bl⟩
  obtain ⟨ao, c, bo, d, rfl⟩ := nw.shape
  have bl2 : Below (w.heap.size + 3) _ w1 := bl.mono (by simp)
  obtain ⟨hc1, hd1, he1, hf1⟩ := box3 bl2
  have hs1 := bl2.size
  simp at hs1
  have NW : Hid (New (w.heap.size + 3) w1 _ m) := nw.mono (by simp)
  have BL : Hid (Below w.heap.size w w1) := (below3 w _ _ _).trans (bl2.mono (by omega))
  clear nw bl bl2 hm'
  go_wp2
  refine bodyPost_ret (v := .tuple #[.int .i64 0, .agg #[.int .i64 (m).st, .string (m).path, .slice ao (m).heads.length c, .slice bo (m).body.size d]]) (by simp [results, Try.results62, go_sem, he1]) rfl ⟨_, rfl, ?_, ?_⟩
  · refine New.mono (base := w.heap.size + 3) ?_ (by omega)
    iterate 4 (refine New.set ?_ (by show w.heap.size + 1 + 1 < w.heap.size + 3; omega) _)
    exact NW.out
  · iterate 4 (refine Below.setCell ?_ (by show w.heap.size ≤ w.heap.size + 1 + 1; omega) _)
    exact BL.out

set_option maxHeartbeats 1000000 in
theorem retryAnswer_goes2 (n k : Int) (m : Ms) (v : Value) (g : Int) (w : World) (hm : MsAt w v m) (h : ¬ g < n) :
    Calls Try.prog 62 #[.agg #[.int .i64 n, .int .i64 k], v, .int .i64 g] w fun e w' => ∃ v', e = .returned (.tuple #[.int .i64 0, v']) ∧ New w.heap.size w' v' m ∧ Below w.heap.size w w' := by
  have hm' := fun o o' o'' => hm.below (Nat.le_refl _) (below3 w o o' o'')
  obtain ⟨⟨ao0, c0, bo0, d0, rfl, a1, _⟩, _, _⟩ := hm
  have h1 : decide (g < n) = false := by simpa using h
  by_cases h0 : 500 ≤ m.st
  all_goals
    go_enter Try.func62, Try.ntmps62
    go_wp2_with fail
    refine (goOut_any m _ _ (hm' _ _ _)).mono ?_
    rintro e w1 ⟨v', rfl, nw, bl⟩
    obtain ⟨ao, c, bo, d, rfl⟩ := nw.shape
    have bl2 : Below (w.heap.size + 3) _ w1 := bl.mono (by simp)
    obtain ⟨hc1, hd1, he1, hf1⟩ := box3 bl2
    have hs1 := bl2.size
    simp at hs1
    have NW : Hid (New (w.heap.size + 3) w1 _ m) := nw.mono (by simp)
    have BL : Hid (Below w.heap.size w w1) := (below3 w _ _ _).trans (bl2.mono (by omega))
    clear nw bl bl2 hm'
    go_wp2
    refine bodyPost_ret (v := .tuple #[.int .i64 0, .agg #[.int .i64 (m).st, .string (m).path, .slice ao (m).heads.length c, .slice bo (m).body.size d]]) (by simp [results, Try.results62, go_sem, he1]) rfl ⟨_, rfl, ?_, ?_⟩
    · refine New.mono (base := w.heap.size + 3) ?_ (by omega)
      iterate 4 (refine New.set ?_ (by show w.heap.size + 1 + 1 < w.heap.size + 3; omega) _)
      exact NW.out
    · iterate 4 (refine Below.setCell ?_ (by show w.heap.size ≤ w.heap.size + 1 + 1; omega) _)
      exact BL.out

theorem token_split (b : Bool) (s text : ByteArray) : (b = true ∧ s = text) ∨ b = false ∨ (b = true ∧ s ≠ text) := by
  cases b with
  | false => exact .inr (.inl rfl)
  | true =>
    by_cases h : s = text
    · exact .inl ⟨rfl, h⟩
    · exact .inr (.inr ⟨rfl, h⟩)

set_option maxHeartbeats 1000000 in
theorem tokenAsk_goes (key text : ByteArray) (m : Ms) (v : Value) (g : Int) (w : World) (hm : MsAt w v m) (h1 : getB key m.heads = true) (h2 : getS key m.heads = text) :
    Calls Try.prog 55 #[.agg #[.string key, .string text], v, .int .i64 g] w fun e w' => ∃ v', e = .returned (.tuple #[.int .i64 0, v', .int .i64 g]) ∧ New w.heap.size w' v' m ∧ Below w.heap.size w w' := by
  have hq : ((getS key m.heads).toList == text.toList) = true := by rw [h2]; simp
  have HB : Hid (getB key m.heads = true) := h1
  clear h1 h2
  have hm' := fun o o' o'' => hm.below (Nat.le_refl _) (below3 w o o' o'')
  obtain ⟨⟨ao0, c0, bo0, d0, rfl, a1, _⟩, _, _⟩ := hm
  go_enter Try.func55, Try.ntmps55
  go_wp2_with fail
  refine (get_any m.heads key _ _ _ _ _ _ (hm' _ _ _).parts.1).mono ?_
  rintro e w0 ⟨rfl, b0⟩
  have b3 : Below (w.heap.size + 3) _ w0 := b0.mono (by simp)
  obtain ⟨xc, xd, xe, xf⟩ := box3 b3
  have hs0 := b3.size
  simp at hs0
  have M0 : Hid (MsAt w0 _ m) := (hm' _ _ _).below (Nat.le_refl _) b0
  have B0 : Hid (Below (w.heap.size + 3) _ w0) := b3
  clear b0 b3
  rw [HB.out]
  go_wp2_with fail
  refine (goIn_any m _ g _ M0.out).mono ?_
  rintro e w1 ⟨v', rfl, nw, bl0⟩
  have bl : Below (w.heap.size + 3) _ w1 := B0.out.trans (bl0.mono (by omega))
  have nw := nw.mono (b := w.heap.size + 3) (by omega)
  clear bl0 xc xd xe xf
  obtain ⟨ao, c, bo, d, rfl⟩ := nw.shape
  have bl2 := bl
  obtain ⟨hc1, hd1, he1, hf1⟩ := box3 bl2
  have hs1 := bl2.size
  simp at hs1
  have NW : Hid (New (w.heap.size + 3) w1 _ m) := nw
  have BL : Hid (Below w.heap.size w w1) := (below3 w _ _ _).trans (bl2.mono (by omega))
  clear nw bl bl2 B0 M0 hm'
  go_wp2
  refine bodyPost_ret (v := .tuple #[.int .i64 0, .agg #[.int .i64 (m).st, .string (m).path, .slice ao (m).heads.length c, .slice bo (m).body.size d], .int .i64 g]) (by simp [results, Try.results55, go_sem, he1]) rfl ⟨_, rfl, ?_, ?_⟩
  · refine New.mono (base := w.heap.size + 3) ?_ (by omega)
    iterate 4 (refine New.set ?_ (by show w.heap.size + 1 + 1 < w.heap.size + 3; omega) _)
    exact NW.out
  · iterate 4 (refine Below.setCell ?_ (by show w.heap.size ≤ w.heap.size + 1 + 1; omega) _)
    exact BL.out

set_option maxHeartbeats 1000000 in
theorem tokenAsk_stop1 (key text : ByteArray) (m : Ms) (v : Value) (g : Int) (w : World) (hm : MsAt w v m) (h1 : getB key m.heads = false) :
    Calls Try.prog 55 #[.agg #[.string key, .string text], v, .int .i64 g] w fun e w' => ∃ v', e = .returned (.tuple #[.int .i64 1, v', .int .i64 g]) ∧ New w.heap.size w' v' (sayM 401 ⟨#[116, 111, 107, 101, 110]⟩) ∧ Below w.heap.size w w' := by
  have HB : Hid (getB key m.heads = false) := h1
  clear h1
  have hm' := fun o o' o'' => hm.below (Nat.le_refl _) (below3 w o o' o'')
  obtain ⟨⟨ao0, c0, bo0, d0, rfl, a1, _⟩, _, _⟩ := hm
  go_enter Try.func55, Try.ntmps55
  go_wp2_with fail
  refine (get_any m.heads key _ _ _ _ _ _ (hm' _ _ _).parts.1).mono ?_
  rintro e w0 ⟨rfl, b0⟩
  have b3 : Below (w.heap.size + 3) _ w0 := b0.mono (by simp)
  obtain ⟨xc, xd, xe, xf⟩ := box3 b3
  have hs0 := b3.size
  simp at hs0
  have M0 : Hid (MsAt w0 _ m) := (hm' _ _ _).below (Nat.le_refl _) b0
  have B0 : Hid (Below (w.heap.size + 3) _ w0) := b3
  clear b0 b3
  rw [HB.out]
  go_wp2_with fail
  refine (stop_any 401 ⟨#[116, 111, 107, 101, 110]⟩ g _ (by decide)).mono ?_
  rintro e w1 ⟨v', rfl, nw, bl0⟩
  have bl : Below (w.heap.size + 3) _ w1 := B0.out.trans (bl0.mono (by omega))
  have nw := nw.mono (b := w.heap.size + 3) (by omega)
  clear bl0 xc xd xe xf
  obtain ⟨ao, c, bo, d, rfl⟩ := nw.shape
  have bl2 := bl
  obtain ⟨hc1, hd1, he1, hf1⟩ := box3 bl2
  have hs1 := bl2.size
  simp at hs1
  have NW : Hid (New (w.heap.size + 3) w1 _ (sayM 401 ⟨#[116, 111, 107, 101, 110]⟩)) := nw
  have BL : Hid (Below w.heap.size w w1) := (below3 w _ _ _).trans (bl2.mono (by omega))
  clear nw bl bl2 B0 M0 hm'
  go_wp2
  refine bodyPost_ret (v := .tuple #[.int .i64 1, .agg #[.int .i64 (sayM 401 ⟨#[116, 111, 107, 101, 110]⟩).st, .string (sayM 401 ⟨#[116, 111, 107, 101, 110]⟩).path, .slice ao (sayM 401 ⟨#[116, 111, 107, 101, 110]⟩).heads.length c, .slice bo (sayM 401 ⟨#[116, 111, 107, 101, 110]⟩).body.size d], .int .i64 g]) (by simp [results, Try.results55, go_sem, he1]) rfl ⟨_, rfl, ?_, ?_⟩
  · refine New.mono (base := w.heap.size + 3) ?_ (by omega)
    iterate 4 (refine New.set ?_ (by show w.heap.size + 1 + 1 < w.heap.size + 3; omega) _)
    exact NW.out
  · iterate 4 (refine Below.setCell ?_ (by show w.heap.size ≤ w.heap.size + 1 + 1; omega) _)
    exact BL.out

set_option maxHeartbeats 1000000 in
theorem tokenAsk_stop2 (key text : ByteArray) (m : Ms) (v : Value) (g : Int) (w : World) (hm : MsAt w v m) (h1 : getB key m.heads = true) (h2 : getS key m.heads ≠ text) :
    Calls Try.prog 55 #[.agg #[.string key, .string text], v, .int .i64 g] w fun e w' => ∃ v', e = .returned (.tuple #[.int .i64 1, v', .int .i64 g]) ∧ New w.heap.size w' v' (sayM 401 ⟨#[116, 111, 107, 101, 110]⟩) ∧ Below w.heap.size w w' := by
  have hq : ((getS key m.heads).toList == text.toList) = false := by rw [beq_eq_false_iff_ne]; exact fun e => h2 (bytes_eq e)
  have HB : Hid (getB key m.heads = true) := h1
  clear h1 h2
  have hm' := fun o o' o'' => hm.below (Nat.le_refl _) (below3 w o o' o'')
  obtain ⟨⟨ao0, c0, bo0, d0, rfl, a1, _⟩, _, _⟩ := hm
  go_enter Try.func55, Try.ntmps55
  go_wp2_with fail
  refine (get_any m.heads key _ _ _ _ _ _ (hm' _ _ _).parts.1).mono ?_
  rintro e w0 ⟨rfl, b0⟩
  have b3 : Below (w.heap.size + 3) _ w0 := b0.mono (by simp)
  obtain ⟨xc, xd, xe, xf⟩ := box3 b3
  have hs0 := b3.size
  simp at hs0
  have M0 : Hid (MsAt w0 _ m) := (hm' _ _ _).below (Nat.le_refl _) b0
  have B0 : Hid (Below (w.heap.size + 3) _ w0) := b3
  clear b0 b3
  rw [HB.out]
  go_wp2_with fail
  refine (stop_any 401 ⟨#[116, 111, 107, 101, 110]⟩ g _ (by decide)).mono ?_
  rintro e w1 ⟨v', rfl, nw, bl0⟩
  have bl : Below (w.heap.size + 3) _ w1 := B0.out.trans (bl0.mono (by omega))
  have nw := nw.mono (b := w.heap.size + 3) (by omega)
  clear bl0 xc xd xe xf
  obtain ⟨ao, c, bo, d, rfl⟩ := nw.shape
  have bl2 := bl
  obtain ⟨hc1, hd1, he1, hf1⟩ := box3 bl2
  have hs1 := bl2.size
  simp at hs1
  have NW : Hid (New (w.heap.size + 3) w1 _ (sayM 401 ⟨#[116, 111, 107, 101, 110]⟩)) := nw
  have BL : Hid (Below w.heap.size w w1) := (below3 w _ _ _).trans (bl2.mono (by omega))
  clear nw bl bl2 B0 M0 hm'
  go_wp2
  refine bodyPost_ret (v := .tuple #[.int .i64 1, .agg #[.int .i64 (sayM 401 ⟨#[116, 111, 107, 101, 110]⟩).st, .string (sayM 401 ⟨#[116, 111, 107, 101, 110]⟩).path, .slice ao (sayM 401 ⟨#[116, 111, 107, 101, 110]⟩).heads.length c, .slice bo (sayM 401 ⟨#[116, 111, 107, 101, 110]⟩).body.size d], .int .i64 g]) (by simp [results, Try.results55, go_sem, he1]) rfl ⟨_, rfl, ?_, ?_⟩
  · refine New.mono (base := w.heap.size + 3) ?_ (by omega)
    iterate 4 (refine New.set ?_ (by show w.heap.size + 1 + 1 < w.heap.size + 3; omega) _)
    exact NW.out
  · iterate 4 (refine Below.setCell ?_ (by show w.heap.size ≤ w.heap.size + 1 + 1; omega) _)
    exact BL.out

end Go.Proofs.Ytmndhecbjpjamaa
