/- The document's own answer: asks and answers that a filter lets be; its Ask and Answer of any filter. -/
import Derived.Test.YtmndhecbjpjamaaSvJ
namespace Go.Proofs.Ytmndhecbjpjamaa
open Go.RowKit

set_option maxHeartbeats 2000000 in
theorem rask_else (k n : Int) (key text : ByteArray) (m : Ms) (v : Value) (g : Int) (w : World) (hm : MsAt w v m) (q1 : (k == 1) = false) (q3 : (k == 3) = false) (q4 : (k == 4) = false) (q5 : (k == 5) = false) :
    Calls Try.prog 9 #[.agg #[.int .i64 k, .int .i64 n, .string key, .string text], v, .int .i64 g] w fun e w' => ∃ v', e = .returned (.tuple #[.int .i64 0, v', .int .i64 g]) ∧ Rides w.heap.size w' v m v' m ∧ Below w.heap.size w w' := by
  have hm' := fun o o' o'' => hm.below (Nat.le_refl _) (below3 w o o' o'')
  obtain ⟨⟨ao0, c0, bo0, d0, rfl, a1, _⟩, _, _⟩ := hm
  go_enter Try.func9, Try.ntmps9
  go_wp2
  go_region
  go_wp2
  exact bodyPost_ret (v := .tuple #[.int .i64 0, .agg #[.int .i64 m.st, .string m.path, .slice ao0 m.heads.length c0, .slice bo0 m.body.size d0], .int .i64 g]) (by simp [results, Try.results9, go_sem]) rfl ⟨_, rfl, Rides.refl _ _ _ _, belDrewN (n := 1) (below3 w _ _ _)⟩

set_option maxHeartbeats 2000000 in
theorem rask_limit_goes (n : Int) (key text : ByteArray) (m : Ms) (v : Value) (g : Int) (w : World) (hm : MsAt w v m) (h : ¬ n < (m.body.size : Int)) :
    Calls Try.prog 9 #[.agg #[.int .i64 4, .int .i64 n, .string key, .string text], v, .int .i64 g] w fun e w' => ∃ v', e = .returned (.tuple #[.int .i64 0, v', .int .i64 g]) ∧ Rides w.heap.size w' v m v' m ∧ Below w.heap.size w w' := by
  have hm' := fun o o' o'' => hm.below (Nat.le_refl _) (below3 w o o' o'')
  obtain ⟨⟨ao0, c0, bo0, d0, rfl, a1, _⟩, _, _⟩ := hm
  go_enter Try.func9, Try.ntmps9
  go_wp2
  go_region
  go_wp2
  exact bodyPost_ret (v := .tuple #[.int .i64 0, .agg #[.int .i64 m.st, .string m.path, .slice ao0 m.heads.length c0, .slice bo0 m.body.size d0], .int .i64 g]) (by simp [results, Try.results9, go_sem]) rfl ⟨_, rfl, Rides.refl _ _ _ _, belDrewN (n := 1) (below3 w _ _ _)⟩

set_option maxHeartbeats 2000000 in
theorem rask_gate_goes (n : Int) (key text : ByteArray) (m : Ms) (v : Value) (g : Int) (w : World) (hm : MsAt w v m) (h : ¬ n ≤ g) (h1 : -1000000 ≤ g) (h2 : g ≤ 1000000) :
    Calls Try.prog 9 #[.agg #[.int .i64 5, .int .i64 n, .string key, .string text], v, .int .i64 g] w fun e w' => ∃ v', e = .returned (.tuple #[.int .i64 0, v', .int .i64 (g + 1)]) ∧ Rides w.heap.size w' v m v' m ∧ Below w.heap.size w w' := by
  have hm' := fun o o' o'' => hm.below (Nat.le_refl _) (below3 w o o' o'')
  obtain ⟨⟨ao0, c0, bo0, d0, rfl, a1, _⟩, _, _⟩ := hm
  go_enter Try.func9, Try.ntmps9
  go_wp2
  go_region
  go_wp2
  exact bodyPost_ret (v := .tuple #[.int .i64 0, .agg #[.int .i64 m.st, .string m.path, .slice ao0 m.heads.length c0, .slice bo0 m.body.size d0], .int .i64 (g + 1)]) (by simp [results, Try.results9, go_sem]) rfl ⟨_, rfl, Rides.refl _ _ _ _, belDrewN (n := 1) (below3 w _ _ _)⟩

set_option maxHeartbeats 2000000 in
theorem rask_token_goes (n : Int) (key text : ByteArray) (m : Ms) (v : Value) (g : Int) (w : World) (hm : MsAt w v m) (h1 : getB key m.heads = true) (h2 : getS key m.heads = text) :
    Calls Try.prog 9 #[.agg #[.int .i64 3, .int .i64 n, .string key, .string text], v, .int .i64 g] w fun e w' => ∃ v', e = .returned (.tuple #[.int .i64 0, v', .int .i64 g]) ∧ Rides w.heap.size w' v m v' m ∧ Below w.heap.size w w' := by
  have hm' := fun o o' o'' => hm.below (Nat.le_refl _) (below3 w o o' o'')
  obtain ⟨⟨ao0, c0, bo0, d0, rfl, a1, _⟩, _, _⟩ := hm
  have hq : ((getS key m.heads).toList == text.toList) = true := by rw [h2]; simp
  have HB : Hid (getB key m.heads = true) := h1
  clear h1 h2
  go_enter Try.func9, Try.ntmps9
  go_wp2_with fail
  refine (rget_any m.heads key _ _ _ _ _ _ (hm' _ _ _).parts.1).mono ?_
  rintro e w0 ⟨rfl, b0⟩
  have b3 : Below (w.heap.size + 3) _ w0 := b0.mono (by simp)
  obtain ⟨xc, xd, xe, xf⟩ := box3 b3
  have hs0 := b3.size
  simp at hs0
  have B0 : Hid (Below (w.heap.size + 3) _ w0) := b3
  clear b0 b3
  rw [HB.out]
  go_wp2
  go_region
  go_wp2
  refine bodyPost_ret (v := .tuple #[.int .i64 0, .agg #[.int .i64 m.st, .string m.path, .slice ao0 m.heads.length c0, .slice bo0 m.body.size d0], .int .i64 g]) (by simp [results, Try.results9, go_sem, xe]) rfl ⟨_, rfl, Rides.refl _ _ _ _, ?_⟩
  refine belDrewN (n := 1) ?_
  iterate 4 (refine Below.setCell ?_ (by show w.heap.size ≤ w.heap.size + 1 + 1; omega) _)
  exact (below3 w _ _ _).trans (B0.out.mono (by omega))

set_option maxHeartbeats 2000000 in
theorem rans_again (n : Int) (key text : ByteArray) (m : Ms) (v : Value) (g : Int) (w : World) (hm : MsAt w v m) (h : 500 ≤ m.st) (h2 : g < n) :
    Calls Try.prog 12 #[.agg #[.int .i64 6, .int .i64 n, .string key, .string text], v, .int .i64 g] w fun e w' => ∃ v', e = .returned (.tuple #[.int .i64 6, v']) ∧ Rides w.heap.size w' v m v' m ∧ Below w.heap.size w w' := by
  have hm' := fun o o' o'' => hm.below (Nat.le_refl _) (below3 w o o' o'')
  obtain ⟨⟨ao0, c0, bo0, d0, rfl, a1, _⟩, _, _⟩ := hm
  have q1 : (499 : Int) < m.st := by omega
  go_enter Try.func12, Try.ntmps12
  go_wp2
  go_region
  go_wp2
  exact bodyPost_ret (v := .tuple #[.int .i64 6, .agg #[.int .i64 m.st, .string m.path, .slice ao0 m.heads.length c0, .slice bo0 m.body.size d0]]) (by simp [results, Try.results12, go_sem]) rfl ⟨_, rfl, Rides.refl _ _ _ _, belDrewN (n := 1) (below3 w _ _ _)⟩

set_option maxHeartbeats 2000000 in
theorem rans_goes1 (n : Int) (key text : ByteArray) (m : Ms) (v : Value) (g : Int) (w : World) (hm : MsAt w v m) (h : ¬ 500 ≤ m.st) :
    Calls Try.prog 12 #[.agg #[.int .i64 6, .int .i64 n, .string key, .string text], v, .int .i64 g] w fun e w' => ∃ v', e = .returned (.tuple #[.int .i64 0, v']) ∧ Rides w.heap.size w' v m v' m ∧ Below w.heap.size w w' := by
  have hm' := fun o o' o'' => hm.below (Nat.le_refl _) (below3 w o o' o'')
  obtain ⟨⟨ao0, c0, bo0, d0, rfl, a1, _⟩, _, _⟩ := hm
  have q1 : decide ((499 : Int) < m.st) = false := by simp; omega
  by_cases h2 : g < n
  all_goals
    first | have h2' : decide (g < n) = true := by simpa using h2 | have h2' : decide (g < n) = false := by simpa using h2
    go_enter Try.func12, Try.ntmps12
    go_wp2
    go_region
    go_wp2
    exact bodyPost_ret (v := .tuple #[.int .i64 0, .agg #[.int .i64 m.st, .string m.path, .slice ao0 m.heads.length c0, .slice bo0 m.body.size d0]]) (by simp [results, Try.results12, go_sem]) rfl ⟨_, rfl, Rides.refl _ _ _ _, belDrewN (n := 1) (below3 w _ _ _)⟩

set_option maxHeartbeats 2000000 in
theorem rans_goes2 (n : Int) (key text : ByteArray) (m : Ms) (v : Value) (g : Int) (w : World) (hm : MsAt w v m) (h : ¬ g < n) :
    Calls Try.prog 12 #[.agg #[.int .i64 6, .int .i64 n, .string key, .string text], v, .int .i64 g] w fun e w' => ∃ v', e = .returned (.tuple #[.int .i64 0, v']) ∧ Rides w.heap.size w' v m v' m ∧ Below w.heap.size w w' := by
  have hm' := fun o o' o'' => hm.below (Nat.le_refl _) (below3 w o o' o'')
  obtain ⟨⟨ao0, c0, bo0, d0, rfl, a1, _⟩, _, _⟩ := hm
  have q1 : decide (g < n) = false := by simpa using h
  go_enter Try.func12, Try.ntmps12
  go_wp2
  go_region
  go_wp2
  exact bodyPost_ret (v := .tuple #[.int .i64 0, .agg #[.int .i64 m.st, .string m.path, .slice ao0 m.heads.length c0, .slice bo0 m.body.size d0]]) (by simp [results, Try.results12, go_sem]) rfl ⟨_, rfl, Rides.refl _ _ _ _, belDrewN (n := 1) (below3 w _ _ _)⟩

set_option maxHeartbeats 2000000 in
theorem rans_else (k n : Int) (key text : ByteArray) (m : Ms) (v : Value) (g : Int) (w : World) (hm : MsAt w v m) (q2 : (k == 2) = false) (q6 : (k == 6) = false) :
    Calls Try.prog 12 #[.agg #[.int .i64 k, .int .i64 n, .string key, .string text], v, .int .i64 g] w fun e w' => ∃ v', e = .returned (.tuple #[.int .i64 0, v']) ∧ Rides w.heap.size w' v m v' m ∧ Below w.heap.size w w' := by
  have hm' := fun o o' o'' => hm.below (Nat.le_refl _) (below3 w o o' o'')
  obtain ⟨⟨ao0, c0, bo0, d0, rfl, a1, _⟩, _, _⟩ := hm
  go_enter Try.func12, Try.ntmps12
  go_wp2
  go_region
  go_wp2
  exact bodyPost_ret (v := .tuple #[.int .i64 0, .agg #[.int .i64 m.st, .string m.path, .slice ao0 m.heads.length c0, .slice bo0 m.body.size d0]]) (by simp [results, Try.results12, go_sem]) rfl ⟨_, rfl, Rides.refl _ _ _ _, belDrewN (n := 1) (below3 w _ _ _)⟩

theorem rask_any (k n : Int) (key text : ByteArray) (m : Ms) (v : Value) (g : Int) (w : World) (hm : MsAt w v m) (hk : key.size ≤ maxLen) (ht : text.size ≤ maxLen) (h1 : -1000000 ≤ g) (h2 : g ≤ 1000000) :
    Calls Try.prog 9 #[.agg #[.int .i64 k, .int .i64 n, .string key, .string text], v, .int .i64 g] w fun e w' => ∃ v', e = .returned (.tuple #[.int .i64 (askD k n key text m g), v', .int .i64 (askG k n g)]) ∧ Rides w.heap.size w' v m v' (askM k n key text m g) ∧ Below w.heap.size w w' := by
  by_cases k1 : k = 1
  · subst k1
    exact rask_set n key text m v g w hm hk ht
  by_cases k3 : k = 3
  · subst k3
    rcases token_split (getB key m.heads) (getS key m.heads) text with ⟨a, b⟩ | a | ⟨a, b⟩
    · have e : askS 3 n key text m g = false := by simp [askS, a, b]
      rw [askD, askM, e]
      exact rask_token_goes n key text m v g w hm a b
    · have e : askS 3 n key text m g = true := by simp [askS, a]
      rw [askD, askM, e]
      exact rask_token_stop1 n key text m v g w hm a
    · have e : askS 3 n key text m g = true := by simp [askS, b]
      rw [askD, askM, e]
      exact rask_token_stop2 n key text m v g w hm a b
  by_cases k4 : k = 4
  · subst k4
    by_cases hc : n < (m.body.size : Int)
    · have e : askS 4 n key text m g = true := by simp [askS, hc]
      rw [askD, askM, e]
      exact rask_limit_stop n key text m v g w hm hc
    · have e : askS 4 n key text m g = false := by simp [askS, hc]
      rw [askD, askM, e]
      exact rask_limit_goes n key text m v g w hm hc
  by_cases k5 : k = 5
  · subst k5
    by_cases hc : n ≤ g
    · have e : askS 5 n key text m g = true := by simp [askS, hc]
      have eg : askG 5 n g = g := by rw [askG, if_neg (by omega)]
      rw [askD, askM, e, eg]
      exact rask_gate_stop n key text m v g w hm hc
    · have e : askS 5 n key text m g = false := by simp [askS, hc]
      have eg : askG 5 n g = g + 1 := by rw [askG, if_pos (by omega)]
      rw [askD, askM, e, eg]
      exact rask_gate_goes n key text m v g w hm hc h1 h2
  have e : askS k n key text m g = false := by simp [askS, k3, k4, k5]
  have em : askM k n key text m g = m := by simp [askM, e, k1]
  have eg : askG k n g = g := by simp [askG, k5]
  rw [askD, em, e, eg]
  exact rask_else k n key text m v g w hm (by simpa using k1) (by simpa using k3) (by simpa using k4) (by simpa using k5)

theorem rans_any (k n : Int) (key text : ByteArray) (m : Ms) (v : Value) (g : Int) (w : World) (hm : MsAt w v m) (hk : key.size ≤ maxLen) (ht : text.size ≤ maxLen) :
    Calls Try.prog 12 #[.agg #[.int .i64 k, .int .i64 n, .string key, .string text], v, .int .i64 g] w fun e w' => ∃ v', e = .returned (.tuple #[.int .i64 (ansD k n m g), v']) ∧ Rides w.heap.size w' v m v' (ansM k key text m) ∧ Below w.heap.size w w' := by
  by_cases k2 : k = 2
  · subst k2
    exact rans_mark n key text m v g w hm hk ht
  have em : ansM k key text m = m := by simp [ansM, k2]
  rw [em]
  by_cases k6 : k = 6
  · subst k6
    by_cases h5 : 500 ≤ m.st
    · by_cases hn : g < n
      · have e : ansD 6 n m g = 6 := by rw [ansD, if_pos ⟨rfl, h5, hn⟩]
        rw [e]
        exact rans_again n key text m v g w hm h5 hn
      · have e : ansD 6 n m g = 0 := by rw [ansD, if_neg (by omega)]
        rw [e]
        exact rans_goes2 n key text m v g w hm hn
    · have e : ansD 6 n m g = 0 := by rw [ansD, if_neg (by omega)]
      rw [e]
      exact rans_goes1 n key text m v g w hm h5
  have e : ansD k n m g = 0 := by simp [ansD, k6]
  rw [e]
  exact rans_else k n key text m v g w hm (by simpa using k2) (by simpa using k6)
end Go.Proofs.Ytmndhecbjpjamaa
