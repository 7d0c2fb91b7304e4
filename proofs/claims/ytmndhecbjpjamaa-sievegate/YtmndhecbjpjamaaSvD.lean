/- Package sieve: Wrong, Ask and Answer, by what a filter's value can. -/
import Derived.Test.YtmndhecbjpjamaaSvC
import Derived.Stop.Asserts
namespace Go.Proofs.Ytmndhecbjpjamaa
open Go.RowKit

set_option maxHeartbeats 1000000 in
theorem ask_has (k n : Int) (key text : ByteArray) (T : TypeId) (x recv : Value) (F : FuncId) (D G : Int) (m M : Ms) (v : Value) (g : Int) (w : World) (hm : MsAt w v m)
    (hv : fltV k n key text = .iface T x) (ha : ∀ w, (Instr.typeAssert (.iface T x) 40 45 true).run Try.prog w = .ok (.tuple #[.iface T x, .bool true]) w)
    (hme : ∀ w, (Go.method 218 T x "Ask").run Try.prog w = .ok (F, recv) w) (eg : ∀ args w, (callFunc F args).run Try.prog w = .ok (.enter F args) w)
    (hF : ∀ W u, MsAt W u m → Calls Try.prog F #[recv, u, .int .i64 g] W fun e w' => ∃ v', e = .returned (.tuple #[.int .i64 D, v', .int .i64 G]) ∧ New W.heap.size w' v' M ∧ Below W.heap.size W w') :
    Calls Try.prog 8 #[.agg #[.int .i64 k, .int .i64 n, .string key, .string text], v, .int .i64 g] w fun e w' => ∃ v', e = .returned (.tuple #[.int .i64 D, v', .int .i64 G]) ∧ New w.heap.size w' v' M ∧ Below w.heap.size w w' := by
  have hm' := fun o o' o'' => hm.below (Nat.le_refl _) (below3 w o o' o'')
  obtain ⟨⟨ao0, c0, bo0, d0, rfl, _⟩, _, _⟩ := hm
  have HV : Hid (fltV k n key text = .iface T x) := hv
  have HF : Hid (∀ W u, MsAt W u m → Calls Try.prog F #[recv, u, .int .i64 g] W fun e w' => ∃ v', e = .returned (.tuple #[.int .i64 D, v', .int .i64 G]) ∧ New W.heap.size w' v' M ∧ Below W.heap.size W w') := hF
  clear hv hF
  go_enter Try.func8, Try.ntmps8
  go_wp2_with fail
  refine (new_any k n key text _).mono ?_
  rintro e w0 ⟨rfl, b0⟩
  rw [HV.out]
  have b3 : Below (w.heap.size + 3) _ w0 := b0.mono (by simp)
  obtain ⟨xc, xd, xe, xf⟩ := box3 b3
  have hs0 := b3.size
  simp at hs0
  have M0 : Hid (MsAt w0 _ m) := (hm' _ _ _).below (Nat.le_refl _) b0
  have B0 : Hid (Below (w.heap.size + 3) _ w0) := b3
  clear b0 b3
  go_wp2_with fail
  refine (HF.out _ _ M0.out).mono ?_
  rintro e w1 ⟨v', rfl, nw0, bl0⟩
  obtain ⟨ao, c, bo, d, rfl⟩ := nw0.shape
  have bl : Below (w.heap.size + 3) _ w1 := B0.out.trans (bl0.mono (by omega))
  obtain ⟨hc1, hd1, he1, hf1⟩ := box3 bl
  have hs1 := bl.size
  simp at hs1
  have NW : Hid (New (w.heap.size + 3) w1 _ M) := nw0.mono (by omega)
  have BL : Hid (Below w.heap.size w w1) := (below3 w _ _ _).trans (bl.mono (by omega))
  clear nw0 bl bl0 hm' xc xd xe xf B0 M0
  go_wp2
  refine bodyPost_ret (v := .tuple #[.int .i64 D, .agg #[.int .i64 (M).st, .string (M).path, .slice ao (M).heads.length c, .slice bo (M).body.size d], .int .i64 G]) (by simp [results, Try.results8, go_sem, he1]) rfl ⟨_, rfl, ?_, ?_⟩
  · refine New.mono (base := w.heap.size + 3) ?_ (by omega)
    iterate 4 (refine New.set ?_ (by show w.heap.size + 1 + 1 < w.heap.size + 3; omega) _)
    exact NW.out
  · iterate 4 (refine Below.setCell ?_ (by show w.heap.size ≤ w.heap.size + 1 + 1; omega) _)
    exact BL.out

set_option maxHeartbeats 1000000 in
theorem ask_lacks (k n : Int) (key text : ByteArray) (T : TypeId) (x : Value) (m : Ms) (v : Value) (g : Int) (w : World) (hm : MsAt w v m)
    (hv : fltV k n key text = .iface T x) (ha : ∀ w, (Instr.typeAssert (.iface T x) 40 45 true).run Try.prog w = .ok (.tuple #[.nilIface, .bool false]) w) :
    Calls Try.prog 8 #[.agg #[.int .i64 k, .int .i64 n, .string key, .string text], v, .int .i64 g] w fun e w' => ∃ v', e = .returned (.tuple #[.int .i64 0, v', .int .i64 g]) ∧ New w.heap.size w' v' m ∧ Below w.heap.size w w' := by
  have hm' := fun o o' o'' => hm.below (Nat.le_refl _) (below3 w o o' o'')
  obtain ⟨⟨ao0, c0, bo0, d0, rfl, _⟩, _, _⟩ := hm
  have HV : Hid (fltV k n key text = .iface T x) := hv
  clear hv
  go_enter Try.func8, Try.ntmps8
  go_wp2_with fail
  refine (new_any k n key text _).mono ?_
  rintro e w0 ⟨rfl, b0⟩
  rw [HV.out]
  have b3 : Below (w.heap.size + 3) _ w0 := b0.mono (by simp)
  obtain ⟨xc, xd, xe, xf⟩ := box3 b3
  have hs0 := b3.size
  simp at hs0
  have M0 : Hid (MsAt w0 _ m) := (hm' _ _ _).below (Nat.le_refl _) b0
  have B0 : Hid (Below (w.heap.size + 3) _ w0) := b3
  clear b0 b3
  go_wp2_with fail
  refine (goIn_any m _ g _ M0.out).mono ?_
  rintro e w1 ⟨v', rfl, nw0, bl0⟩
  obtain ⟨ao, c, bo, d, rfl⟩ := nw0.shape
  have bl : Below (w.heap.size + 3) _ w1 := B0.out.trans (bl0.mono (by omega))
  obtain ⟨hc1, hd1, he1, hf1⟩ := box3 bl
  have hs1 := bl.size
  simp at hs1
  have NW : Hid (New (w.heap.size + 3) w1 _ m) := nw0.mono (by omega)
  have BL : Hid (Below w.heap.size w w1) := (below3 w _ _ _).trans (bl.mono (by omega))
  clear nw0 bl bl0 hm' xc xd xe xf B0 M0
  go_wp2
  refine bodyPost_ret (v := .tuple #[.int .i64 0, .agg #[.int .i64 (m).st, .string (m).path, .slice ao (m).heads.length c, .slice bo (m).body.size d], .int .i64 g]) (by simp [results, Try.results8, go_sem, he1]) rfl ⟨_, rfl, ?_, ?_⟩
  · refine New.mono (base := w.heap.size + 3) ?_ (by omega)
    iterate 4 (refine New.set ?_ (by show w.heap.size + 1 + 1 < w.heap.size + 3; omega) _)
    exact NW.out
  · iterate 4 (refine Below.setCell ?_ (by show w.heap.size ≤ w.heap.size + 1 + 1; omega) _)
    exact BL.out

set_option maxHeartbeats 1000000 in
theorem answer_has (k n : Int) (key text : ByteArray) (T : TypeId) (x recv : Value) (F : FuncId) (D : Int) (m M : Ms) (v : Value) (g : Int) (w : World) (hm : MsAt w v m)
    (hv : fltV k n key text = .iface T x) (ha : ∀ w, (Instr.typeAssert (.iface T x) 40 55 true).run Try.prog w = .ok (.tuple #[.iface T x, .bool true]) w)
    (hme : ∀ w, (Go.method 218 T x "Answer").run Try.prog w = .ok (F, recv) w) (eg : ∀ args w, (callFunc F args).run Try.prog w = .ok (.enter F args) w)
    (hF : ∀ W u, MsAt W u m → Calls Try.prog F #[recv, u, .int .i64 g] W fun e w' => ∃ v', e = .returned (.tuple #[.int .i64 D, v']) ∧ New W.heap.size w' v' M ∧ Below W.heap.size W w') :
    Calls Try.prog 11 #[.agg #[.int .i64 k, .int .i64 n, .string key, .string text], v, .int .i64 g] w fun e w' => ∃ v', e = .returned (.tuple #[.int .i64 D, v']) ∧ New w.heap.size w' v' M ∧ Below w.heap.size w w' := by
  have hm' := fun o o' o'' => hm.below (Nat.le_refl _) (below3 w o o' o'')
  obtain ⟨⟨ao0, c0, bo0, d0, rfl, _⟩, _, _⟩ := hm
  have HV : Hid (fltV k n key text = .iface T x) := hv
  have HF : Hid (∀ W u, MsAt W u m → Calls Try.prog F #[recv, u, .int .i64 g] W fun e w' => ∃ v', e = .returned (.tuple #[.int .i64 D, v']) ∧ New W.heap.size w' v' M ∧ Below W.heap.size W w') := hF
  clear hv hF
  go_enter Try.func11, Try.ntmps11
  go_wp2_with fail
  refine (new_any k n key text _).mono ?_
  rintro e w0 ⟨rfl, b0⟩
  rw [HV.out]
  have b3 : Below (w.heap.size + 3) _ w0 := b0.mono (by simp)
  obtain ⟨xc, xd, xe, xf⟩ := box3 b3
  have hs0 := b3.size
  simp at hs0
  have M0 : Hid (MsAt w0 _ m) := (hm' _ _ _).below (Nat.le_refl _) b0
  have B0 : Hid (Below (w.heap.size + 3) _ w0) := b3
  clear b0 b3
  go_wp2_with fail
  refine (HF.out _ _ M0.out).mono ?_
  rintro e w1 ⟨v', rfl, nw0, bl0⟩
  obtain ⟨ao, c, bo, d, rfl⟩ := nw0.shape
  have bl : Below (w.heap.size + 3) _ w1 := B0.out.trans (bl0.mono (by omega))
  obtain ⟨hc1, hd1, he1, hf1⟩ := box3 bl
  have hs1 := bl.size
  simp at hs1
  have NW : Hid (New (w.heap.size + 3) w1 _ M) := nw0.mono (by omega)
  have BL : Hid (Below w.heap.size w w1) := (below3 w _ _ _).trans (bl.mono (by omega))
  clear nw0 bl bl0 hm' xc xd xe xf B0 M0
  go_wp2
  refine bodyPost_ret (v := .tuple #[.int .i64 D, .agg #[.int .i64 (M).st, .string (M).path, .slice ao (M).heads.length c, .slice bo (M).body.size d]]) (by simp [results, Try.results11, go_sem, he1]) rfl ⟨_, rfl, ?_, ?_⟩
  · refine New.mono (base := w.heap.size + 3) ?_ (by omega)
    iterate 4 (refine New.set ?_ (by show w.heap.size + 1 + 1 < w.heap.size + 3; omega) _)
    exact NW.out
  · iterate 4 (refine Below.setCell ?_ (by show w.heap.size ≤ w.heap.size + 1 + 1; omega) _)
    exact BL.out

set_option maxHeartbeats 1000000 in
theorem answer_lacks (k n : Int) (key text : ByteArray) (T : TypeId) (x : Value) (m : Ms) (v : Value) (g : Int) (w : World) (hm : MsAt w v m)
    (hv : fltV k n key text = .iface T x) (ha : ∀ w, (Instr.typeAssert (.iface T x) 40 55 true).run Try.prog w = .ok (.tuple #[.nilIface, .bool false]) w) :
    Calls Try.prog 11 #[.agg #[.int .i64 k, .int .i64 n, .string key, .string text], v, .int .i64 g] w fun e w' => ∃ v', e = .returned (.tuple #[.int .i64 0, v']) ∧ New w.heap.size w' v' m ∧ Below w.heap.size w w' := by
  have hm' := fun o o' o'' => hm.below (Nat.le_refl _) (below3 w o o' o'')
  obtain ⟨⟨ao0, c0, bo0, d0, rfl, _⟩, _, _⟩ := hm
  have HV : Hid (fltV k n key text = .iface T x) := hv
  clear hv
  go_enter Try.func11, Try.ntmps11
  go_wp2_with fail
  refine (new_any k n key text _).mono ?_
  rintro e w0 ⟨rfl, b0⟩
  rw [HV.out]
  have b3 : Below (w.heap.size + 3) _ w0 := b0.mono (by simp)
  obtain ⟨xc, xd, xe, xf⟩ := box3 b3
  have hs0 := b3.size
  simp at hs0
  have M0 : Hid (MsAt w0 _ m) := (hm' _ _ _).below (Nat.le_refl _) b0
  have B0 : Hid (Below (w.heap.size + 3) _ w0) := b3
  clear b0 b3
  go_wp2_with fail
  refine (goOut_any m _ _ M0.out).mono ?_
  rintro e w1 ⟨v', rfl, nw0, bl0⟩
  obtain ⟨ao, c, bo, d, rfl⟩ := nw0.shape
  have bl : Below (w.heap.size + 3) _ w1 := B0.out.trans (bl0.mono (by omega))
  obtain ⟨hc1, hd1, he1, hf1⟩ := box3 bl
  have hs1 := bl.size
  simp at hs1
  have NW : Hid (New (w.heap.size + 3) w1 _ m) := nw0.mono (by omega)
  have BL : Hid (Below w.heap.size w w1) := (below3 w _ _ _).trans (bl.mono (by omega))
  clear nw0 bl bl0 hm' xc xd xe xf B0 M0
  go_wp2
  refine bodyPost_ret (v := .tuple #[.int .i64 0, .agg #[.int .i64 (m).st, .string (m).path, .slice ao (m).heads.length c, .slice bo (m).body.size d]]) (by simp [results, Try.results11, go_sem, he1]) rfl ⟨_, rfl, ?_, ?_⟩
  · refine New.mono (base := w.heap.size + 3) ?_ (by omega)
    iterate 4 (refine New.set ?_ (by show w.heap.size + 1 + 1 < w.heap.size + 3; omega) _)
    exact NW.out
  · iterate 4 (refine Below.setCell ?_ (by show w.heap.size ≤ w.heap.size + 1 + 1; omega) _)
    exact BL.out

set_option maxHeartbeats 1000000 in
theorem wrong_has (k n : Int) (key text : ByteArray) (T : TypeId) (x recv : Value) (F : FuncId) (E : Int) (w : World)
    (hv : fltV k n key text = .iface T x) (hme : ∀ w, (Go.method 218 T x "Wrong").run Try.prog w = .ok (F, recv) w) (eg : ∀ args w, (callFunc F args).run Try.prog w = .ok (.enter F args) w)
    (hF : ∀ W, Calls Try.prog F #[recv] W fun e w' => e = .returned (.int .i64 E) ∧ Below W.heap.size W w') :
    Calls Try.prog 6 #[.agg #[.int .i64 k, .int .i64 n, .string key, .string text]] w fun e w' => e = .returned (.int .i64 E) ∧ Below w.heap.size w w' := by
  have HV : Hid (fltV k n key text = .iface T x) := hv
  have HF : Hid (∀ W, Calls Try.prog F #[recv] W fun e w' => e = .returned (.int .i64 E) ∧ Below W.heap.size W w') := hF
  clear hv hF
  go_enter Try.func6, Try.ntmps6
  go_wp2_with fail
  refine (new_any k n key text _).mono ?_
  rintro e w0 ⟨rfl, b0⟩
  rw [HV.out]
  go_wp2_with fail
  refine (HF.out _).mono ?_
  rintro e w1 ⟨rfl, b1⟩
  go_wp2
  go_ret
  exact ⟨rfl, (((Below.refl _ _).alloc (Nat.le_refl _) _).trans (b0.mono (by simp))).trans (b1.mono (by have := b0.size; simp at this; omega))⟩
end Go.Proofs.Ytmndhecbjpjamaa
