/- The document's own answer: what a filter does with an ask. -/
import Derived.Test.YtmndhecbjpjamaaSvI
namespace Go.Proofs.Ytmndhecbjpjamaa
open Go.RowKit

theorem rsay_new (st : Int) (s : ByteArray) (w : World) (hs : s.size ≤ 140737488351232) :
    Calls Try.prog 21 #[.int .i64 st, .string s] w fun e w' => ∃ v', e = .returned v' ∧ New w.heap.size w' v' (sayM st s) ∧ Below w.heap.size w w' := by
  refine (rsay_any st s w hs).mono ?_
  rintro e w1 ⟨bo, d, rfl, ms, fr, bl⟩
  exact ⟨_, rfl, ⟨ms, fr⟩, bl⟩

set_option maxHeartbeats 2000000 in
theorem rask_set (n : Int) (key text : ByteArray) (m : Ms) (v : Value) (g : Int) (w : World) (hm : MsAt w v m) (hk : key.size ≤ maxLen) (ht : text.size ≤ maxLen) :
    Calls Try.prog 9 #[.agg #[.int .i64 1, .int .i64 n, .string key, .string text], v, .int .i64 g] w fun e w' => ∃ v', e = .returned (.tuple #[.int .i64 0, v', .int .i64 g]) ∧ Rides w.heap.size w' v m v' (setM m key text) ∧ Below w.heap.size w w' := by
  have hm' := fun o o' o'' => hm.below (Nat.le_refl _) (below3 w o o' o'')
  obtain ⟨⟨ao0, c0, bo0, d0, rfl, a1, _⟩, _, _⟩ := hm
  have HK : Hid (key.size ≤ maxLen ∧ text.size ≤ maxLen) := ⟨hk, ht⟩
  clear hk ht
  go_enter Try.func9, Try.ntmps9
  go_wp2_with fail
  refine (rset_any m key text _ _ (hm' _ _ _) HK.out.1 HK.out.2).mono ?_
  rintro e w1 ⟨v', rfl, rd, bl0⟩
  have ms := rd.lies ((hm' _ _ _).below (Nat.le_refl _) bl0)
  have bl : Below (w.heap.size + 3) _ w1 := bl0.mono (by simp)
  obtain ⟨⟨ao, c, bo, d, rfl, _⟩, _, _⟩ := ms
  have RD : Hid (Rides (w.heap.size + 3) w1 _ m _ (setM m key text)) := rd.mono (by simp)
  clear rd bl0
  have bl2 : Below (w.heap.size + 3) _ w1 := bl
  obtain ⟨hc1, hd1, he1, hf1⟩ := box3 bl2
  have hs1 := bl2.size
  simp at hs1
  have BL : Hid (Below w.heap.size w w1) := (below3 w _ _ _).trans (bl2.mono (by omega))
  clear bl bl2 hm'
  go_wp2
  refine bodyPost_ret (v := .tuple #[.int .i64 0, .agg #[.int .i64 (setM m key text).st, .string (setM m key text).path, .slice ao (setM m key text).heads.length c, .slice bo (setM m key text).body.size d], .int .i64 g]) (by simp [results, Try.results9, go_sem, he1]) rfl ⟨_, rfl, ?_, ?_⟩
  · refine Rides.mono (base := w.heap.size + 3) ?_ (by omega)
    iterate 4 (refine Rides.set ?_ (by show w.heap.size + 1 + 1 < w.heap.size + 3; omega) _)
    exact RD.out
  · iterate 4 (refine Below.setCell ?_ (by show w.heap.size ≤ w.heap.size + 1 + 1; omega) _)
    exact BL.out

set_option maxHeartbeats 2000000 in
theorem rans_mark (n : Int) (key text : ByteArray) (m : Ms) (v : Value) (g : Int) (w : World) (hm : MsAt w v m) (hk : key.size ≤ maxLen) (ht : text.size ≤ maxLen) :
    Calls Try.prog 12 #[.agg #[.int .i64 2, .int .i64 n, .string key, .string text], v, .int .i64 g] w fun e w' => ∃ v', e = .returned (.tuple #[.int .i64 0, v']) ∧ Rides w.heap.size w' v m v' (setM m key text) ∧ Below w.heap.size w w' := by
  have hm' := fun o o' o'' => hm.below (Nat.le_refl _) (below3 w o o' o'')
  obtain ⟨⟨ao0, c0, bo0, d0, rfl, a1, _⟩, _, _⟩ := hm
  have HK : Hid (key.size ≤ maxLen ∧ text.size ≤ maxLen) := ⟨hk, ht⟩
  clear hk ht
  go_enter Try.func12, Try.ntmps12
  go_wp2_with fail
  refine (rset_any m key text _ _ (hm' _ _ _) HK.out.1 HK.out.2).mono ?_
  rintro e w1 ⟨v', rfl, rd, bl0⟩
  have ms := rd.lies ((hm' _ _ _).below (Nat.le_refl _) bl0)
  have bl : Below (w.heap.size + 3) _ w1 := bl0.mono (by simp)
  obtain ⟨⟨ao, c, bo, d, rfl, _⟩, _, _⟩ := ms
  have RD : Hid (Rides (w.heap.size + 3) w1 _ m _ (setM m key text)) := rd.mono (by simp)
  clear rd bl0
  have bl2 : Below (w.heap.size + 3) _ w1 := bl
  obtain ⟨hc1, hd1, he1, hf1⟩ := box3 bl2
  have hs1 := bl2.size
  simp at hs1
  have BL : Hid (Below w.heap.size w w1) := (below3 w _ _ _).trans (bl2.mono (by omega))
  clear bl bl2 hm'
  go_wp2
  refine bodyPost_ret (v := .tuple #[.int .i64 0, .agg #[.int .i64 (setM m key text).st, .string (setM m key text).path, .slice ao (setM m key text).heads.length c, .slice bo (setM m key text).body.size d]]) (by simp [results, Try.results12, go_sem, he1]) rfl ⟨_, rfl, ?_, ?_⟩
  · refine Rides.mono (base := w.heap.size + 3) ?_ (by omega)
    iterate 4 (refine Rides.set ?_ (by show w.heap.size + 1 + 1 < w.heap.size + 3; omega) _)
    exact RD.out
  · iterate 4 (refine Below.setCell ?_ (by show w.heap.size ≤ w.heap.size + 1 + 1; omega) _)
    exact BL.out

set_option maxHeartbeats 2000000 in
theorem rask_limit_stop (n : Int) (key text : ByteArray) (m : Ms) (v : Value) (g : Int) (w : World) (hm : MsAt w v m) (h : n < (m.body.size : Int)) :
    Calls Try.prog 9 #[.agg #[.int .i64 4, .int .i64 n, .string key, .string text], v, .int .i64 g] w fun e w' => ∃ v', e = .returned (.tuple #[.int .i64 1, v', .int .i64 g]) ∧ Rides w.heap.size w' v m v' (sayM 413 ⟨#[108, 105, 109, 105, 116]⟩) ∧ Below w.heap.size w w' := by
  have hm' := fun o o' o'' => hm.below (Nat.le_refl _) (below3 w o o' o'')
  obtain ⟨⟨ao0, c0, bo0, d0, rfl, a1, _⟩, _, _⟩ := hm
  go_enter Try.func9, Try.ntmps9
  go_wp2_with fail
  refine (rsay_new 413 ⟨#[108, 105, 109, 105, 116]⟩ _ (by decide)).mono ?_
  rintro e w1 ⟨v', rfl, nw, bl0⟩
  have bl : Below (w.heap.size + 3) _ w1 := bl0.mono (by simp)
  obtain ⟨ao, c, bo, d, rfl⟩ := nw.shape
  have RD : Hid (Rides (w.heap.size + 3) w1 (.agg #[.int .i64 m.st, .string m.path, .slice ao0 m.heads.length c0, .slice bo0 m.body.size d0]) m _ (sayM 413 ⟨#[108, 105, 109, 105, 116]⟩)) := rides_new (nw.mono (by simp))
  clear nw bl0
  have bl2 : Below (w.heap.size + 3) _ w1 := bl
  obtain ⟨hc1, hd1, he1, hf1⟩ := box3 bl2
  have hs1 := bl2.size
  simp at hs1
  have BL : Hid (Below w.heap.size w w1) := (below3 w _ _ _).trans (bl2.mono (by omega))
  clear bl bl2 hm'
  go_wp2
  refine bodyPost_ret (v := .tuple #[.int .i64 1, .agg #[.int .i64 (sayM 413 ⟨#[108, 105, 109, 105, 116]⟩).st, .string (sayM 413 ⟨#[108, 105, 109, 105, 116]⟩).path, .slice ao (sayM 413 ⟨#[108, 105, 109, 105, 116]⟩).heads.length c, .slice bo (sayM 413 ⟨#[108, 105, 109, 105, 116]⟩).body.size d], .int .i64 g]) (by simp [results, Try.results9, go_sem, he1]) rfl ⟨_, rfl, ?_, ?_⟩
  · refine Rides.mono (base := w.heap.size + 3) ?_ (by omega)
    iterate 4 (refine Rides.set ?_ (by show w.heap.size + 1 + 1 < w.heap.size + 3; omega) _)
    exact RD.out
  · iterate 4 (refine Below.setCell ?_ (by show w.heap.size ≤ w.heap.size + 1 + 1; omega) _)
    exact BL.out

set_option maxHeartbeats 2000000 in
theorem rask_gate_stop (n : Int) (key text : ByteArray) (m : Ms) (v : Value) (g : Int) (w : World) (hm : MsAt w v m) (h : n ≤ g) :
    Calls Try.prog 9 #[.agg #[.int .i64 5, .int .i64 n, .string key, .string text], v, .int .i64 g] w fun e w' => ∃ v', e = .returned (.tuple #[.int .i64 1, v', .int .i64 g]) ∧ Rides w.heap.size w' v m v' (sayM 429 ⟨#[103, 97, 116, 101]⟩) ∧ Below w.heap.size w w' := by
  have hm' := fun o o' o'' => hm.below (Nat.le_refl _) (below3 w o o' o'')
  obtain ⟨⟨ao0, c0, bo0, d0, rfl, a1, _⟩, _, _⟩ := hm
  go_enter Try.func9, Try.ntmps9
  go_wp2_with fail
  refine (rsay_new 429 ⟨#[103, 97, 116, 101]⟩ _ (by decide)).mono ?_
  rintro e w1 ⟨v', rfl, nw, bl0⟩
  have bl : Below (w.heap.size + 3) _ w1 := bl0.mono (by simp)
  obtain ⟨ao, c, bo, d, rfl⟩ := nw.shape
  have RD : Hid (Rides (w.heap.size + 3) w1 (.agg #[.int .i64 m.st, .string m.path, .slice ao0 m.heads.length c0, .slice bo0 m.body.size d0]) m _ (sayM 429 ⟨#[103, 97, 116, 101]⟩)) := rides_new (nw.mono (by simp))
  clear nw bl0
  have bl2 : Below (w.heap.size + 3) _ w1 := bl
  obtain ⟨hc1, hd1, he1, hf1⟩ := box3 bl2
  have hs1 := bl2.size
  simp at hs1
  have BL : Hid (Below w.heap.size w w1) := (below3 w _ _ _).trans (bl2.mono (by omega))
  clear bl bl2 hm'
  go_wp2
  refine bodyPost_ret (v := .tuple #[.int .i64 1, .agg #[.int .i64 (sayM 429 ⟨#[103, 97, 116, 101]⟩).st, .string (sayM 429 ⟨#[103, 97, 116, 101]⟩).path, .slice ao (sayM 429 ⟨#[103, 97, 116, 101]⟩).heads.length c, .slice bo (sayM 429 ⟨#[103, 97, 116, 101]⟩).body.size d], .int .i64 g]) (by simp [results, Try.results9, go_sem, he1]) rfl ⟨_, rfl, ?_, ?_⟩
  · refine Rides.mono (base := w.heap.size + 3) ?_ (by omega)
    iterate 4 (refine Rides.set ?_ (by show w.heap.size + 1 + 1 < w.heap.size + 3; omega) _)
    exact RD.out
  · iterate 4 (refine Below.setCell ?_ (by show w.heap.size ≤ w.heap.size + 1 + 1; omega) _)
    exact BL.out

set_option maxHeartbeats 2000000 in
theorem rask_token_stop1 (n : Int) (key text : ByteArray) (m : Ms) (v : Value) (g : Int) (w : World) (hm : MsAt w v m) (h1 : getB key m.heads = false) :
    Calls Try.prog 9 #[.agg #[.int .i64 3, .int .i64 n, .string key, .string text], v, .int .i64 g] w fun e w' => ∃ v', e = .returned (.tuple #[.int .i64 1, v', .int .i64 g]) ∧ Rides w.heap.size w' v m v' (sayM 401 ⟨#[116, 111, 107, 101, 110]⟩) ∧ Below w.heap.size w w' := by
  have hm' := fun o o' o'' => hm.below (Nat.le_refl _) (below3 w o o' o'')
  obtain ⟨⟨ao0, c0, bo0, d0, rfl, a1, _⟩, _, _⟩ := hm
  have HB : Hid (getB key m.heads = false) := h1
  clear h1
  go_enter Try.func9, Try.ntmps9
  go_wp2_with fail
  refine (rget_any m.heads key _ _ _ _ _ _ (hm' _ _ _).parts.1).mono ?_
  rintro e w0 ⟨rfl, b0⟩
  have b3 : Below (w.heap.size + 3) _ w0 := b0.mono (by simp)
  obtain ⟨xc, xd, xe, xf⟩ := box3 b3
  have hs0 := b3.size
  simp at hs0
  have M0 : Hid (MsAt w0 _ m) := (hm' _ _ _).below (Nat.le_refl _) b0
  have B0 : Hid (Below (w.heap.size + 3) _ w0) := b3
  clear b0 b3
  rw [HB.out]
  go_wp2_with fail
  refine (rsay_new 401 ⟨#[116, 111, 107, 101, 110]⟩ _ (by decide)).mono ?_
  rintro e w1 ⟨v', rfl, nw, bl0⟩
  have bl : Below (w.heap.size + 3) _ w1 := B0.out.trans (bl0.mono (by omega))
  obtain ⟨ao, c, bo, d, rfl⟩ := nw.shape
  have RD : Hid (Rides (w.heap.size + 3) w1 (.agg #[.int .i64 m.st, .string m.path, .slice ao0 m.heads.length c0, .slice bo0 m.body.size d0]) m _ (sayM 401 ⟨#[116, 111, 107, 101, 110]⟩)) := rides_new (nw.mono (by omega))
  clear nw bl0 xc xd xe xf B0 M0
  have bl2 : Below (w.heap.size + 3) _ w1 := bl
  obtain ⟨hc1, hd1, he1, hf1⟩ := box3 bl2
  have hs1 := bl2.size
  simp at hs1
  have BL : Hid (Below w.heap.size w w1) := (below3 w _ _ _).trans (bl2.mono (by omega))
  clear bl bl2 hm'
  go_wp2
  refine bodyPost_ret (v := .tuple #[.int .i64 1, .agg #[.int .i64 (sayM 401 ⟨#[116, 111, 107, 101, 110]⟩).st, .string (sayM 401 ⟨#[116, 111, 107, 101, 110]⟩).path, .slice ao (sayM 401 ⟨#[116, 111, 107, 101, 110]⟩).heads.length c, .slice bo (sayM 401 ⟨#[116, 111, 107, 101, 110]⟩).body.size d], .int .i64 g]) (by simp [results, Try.results9, go_sem, he1]) rfl ⟨_, rfl, ?_, ?_⟩
  · refine Rides.mono (base := w.heap.size + 3) ?_ (by omega)
    iterate 4 (refine Rides.set ?_ (by show w.heap.size + 1 + 1 < w.heap.size + 3; omega) _)
    exact RD.out
  · iterate 4 (refine Below.setCell ?_ (by show w.heap.size ≤ w.heap.size + 1 + 1; omega) _)
    exact BL.out

set_option maxHeartbeats 2000000 in
theorem rask_token_stop2 (n : Int) (key text : ByteArray) (m : Ms) (v : Value) (g : Int) (w : World) (hm : MsAt w v m) (h1 : getB key m.heads = true) (h2 : getS key m.heads ≠ text) :
    Calls Try.prog 9 #[.agg #[.int .i64 3, .int .i64 n, .string key, .string text], v, .int .i64 g] w fun e w' => ∃ v', e = .returned (.tuple #[.int .i64 1, v', .int .i64 g]) ∧ Rides w.heap.size w' v m v' (sayM 401 ⟨#[116, 111, 107, 101, 110]⟩) ∧ Below w.heap.size w w' := by
  have hm' := fun o o' o'' => hm.below (Nat.le_refl _) (below3 w o o' o'')
  obtain ⟨⟨ao0, c0, bo0, d0, rfl, a1, _⟩, _, _⟩ := hm
  have hq : ((getS key m.heads).toList == text.toList) = false := by rw [beq_eq_false_iff_ne]; exact fun e => h2 (bytes_eq e)
  have HB : Hid (getB key m.heads = true) := h1
  clear h1 h2
  go_enter Try.func9, Try.ntmps9
  go_wp2_with fail
  refine (rget_any m.heads key _ _ _ _ _ _ (hm' _ _ _).parts.1).mono ?_
  rintro e w0 ⟨rfl, b0⟩
  have b3 : Below (w.heap.size + 3) _ w0 := b0.mono (by simp)
  obtain ⟨xc, xd, xe, xf⟩ := box3 b3
  have hs0 := b3.size
  simp at hs0
  have M0 : Hid (MsAt w0 _ m) := (hm' _ _ _).below (Nat.le_refl _) b0
  have B0 : Hid (Below (w.heap.size + 3) _ w0) := b3
  clear b0 b3
  rw [HB.out]
  go_wp2_with fail
  refine (rsay_new 401 ⟨#[116, 111, 107, 101, 110]⟩ _ (by decide)).mono ?_
  rintro e w1 ⟨v', rfl, nw, bl0⟩
  have bl : Below (w.heap.size + 3) _ w1 := B0.out.trans (bl0.mono (by omega))
  obtain ⟨ao, c, bo, d, rfl⟩ := nw.shape
  have RD : Hid (Rides (w.heap.size + 3) w1 (.agg #[.int .i64 m.st, .string m.path, .slice ao0 m.heads.length c0, .slice bo0 m.body.size d0]) m _ (sayM 401 ⟨#[116, 111, 107, 101, 110]⟩)) := rides_new (nw.mono (by omega))
  clear nw bl0 xc xd xe xf B0 M0
  have bl2 : Below (w.heap.size + 3) _ w1 := bl
  obtain ⟨hc1, hd1, he1, hf1⟩ := box3 bl2
  have hs1 := bl2.size
  simp at hs1
  have BL : Hid (Below w.heap.size w w1) := (below3 w _ _ _).trans (bl2.mono (by omega))
  clear bl bl2 hm'
  go_wp2
  refine bodyPost_ret (v := .tuple #[.int .i64 1, .agg #[.int .i64 (sayM 401 ⟨#[116, 111, 107, 101, 110]⟩).st, .string (sayM 401 ⟨#[116, 111, 107, 101, 110]⟩).path, .slice ao (sayM 401 ⟨#[116, 111, 107, 101, 110]⟩).heads.length c, .slice bo (sayM 401 ⟨#[116, 111, 107, 101, 110]⟩).body.size d], .int .i64 g]) (by simp [results, Try.results9, go_sem, he1]) rfl ⟨_, rfl, ?_, ?_⟩
  · refine Rides.mono (base := w.heap.size + 3) ?_ (by omega)
    iterate 4 (refine Rides.set ?_ (by show w.heap.size + 1 + 1 < w.heap.size + 3; omega) _)
    exact RD.out
  · iterate 4 (refine Below.setCell ?_ (by show w.heap.size ≤ w.heap.size + 1 + 1; omega) _)
    exact BL.out

end Go.Proofs.Ytmndhecbjpjamaa
