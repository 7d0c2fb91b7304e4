/- Walks of fault's Answer and of the document's own. -/
import Derived.Test.YtlkfkhpokkjkpaaDoorFaultE
import Derived.Test.YtlkfkhpokkjkpaaDoorMsgQ
import Derived.Deep.RegionWith
namespace Go.Proofs.YtlkfkhpokkjkpaaDoor
open Go.RowKit

theorem status_ex (k fi ca inn : Int) (t : ByteArray) (w : World) : Calls Tryd.prog 33 #[.agg #[.int .i64 k, .int .i64 fi, .int .i64 ca, .string t, .int .i64 inn]] w fun e w' => e = .returned (.int .i64 (statusI k)) ∧ w' = w.alloc (.cells #[.int .i64 k, .int .i64 fi, .int .i64 ca, .string t, .int .i64 inn] 44) := by
  rcases kind_cases k with rfl | rfl | rfl | rfl | rfl | rfl | rfl | ⟨h1, h2, h3, h4, h5, h6, h7⟩
  case inr.inr.inr.inr.inr.inr.inr =>
    have e : statusI k = 500 := by simp [statusI, h1, h4, h5, h6]
    have HE : Hid (statusI k = 500) := e
    clear e
    have g1 := neq_b h1
    have g4 := neq_b h4
    have g5 := neq_b h5
    have g6 := neq_b h6
    go_enter Tryd.func33, Tryd.ntmps33
    go_wp2
    go_ret
    exact ⟨by rw [HE.out]; rfl, rfl⟩
  all_goals
    go_enter Tryd.func33, Tryd.ntmps33
    go_wp2
    go_ret
    exact ⟨rfl, rfl⟩

set_option maxHeartbeats 1000000 in
theorem answer_new (st : Int) (s : ByteArray) (w : World) (hs : s.size ≤ 140737488351232) :
    Calls Tryd.prog 21 #[.int .i64 st, .string s] w fun e w' => ∃ d, e = .returned (.agg #[.int .i64 st, .string ⟨#[]⟩, .slice none 0 0, .slice (some ⟨w.heap.size + 1, 0, none⟩) s.size d]) ∧ MsAt w' (.agg #[.int .i64 st, .string ⟨#[]⟩, .slice none 0 0, .slice (some ⟨w.heap.size + 1, 0, none⟩) s.size d]) ⟨st, B [], [], s⟩ ∧ Below w.heap.size w w' := by
  have HS : Hid (s.size ≤ 140737488351232) := hs
  clear hs
  have hcv := Lib.run_convert_string_bytes (P := Tryd.prog) (w.alloc (.cells #[.int .i64 0, .string ⟨#[]⟩, .slice none 0 0, .slice none 0 0] 25)) 9 23 5 s Tryd.underlying9 Tryd.underlying23 Tryd.underlying5
  obtain ⟨w1, hw1⟩ : ∃ w1, Lib.bytesWorld (w.alloc (.cells #[.int .i64 0, .string ⟨#[]⟩, .slice none 0 0, .slice none 0 0] 25)) 5 s = w1 := ⟨_, rfl⟩
  obtain ⟨cap, hcap⟩ : ∃ cap, grownCap (w.alloc (.cells #[.int .i64 0, .string ⟨#[]⟩, .slice none 0 0, .slice none 0 0] 25)) s.size 0 5 = cap := ⟨_, rfl⟩
  rw [hw1, hcap] at hcv
  have b1 : Below (w.alloc (.cells #[.int .i64 0, .string ⟨#[]⟩, .slice none 0 0, .slice none 0 0] 25)).heap.size (w.alloc (.cells #[.int .i64 0, .string ⟨#[]⟩, .slice none 0 0, .slice none 0 0] 25)) w1 := by rw [← hw1]; exact below_bytes _ _
  have BY : Hid (BytesAt w1 (some ⟨w.heap.size + 1, 0, none⟩) s) := by
    have := bytesAt_new (w.alloc (.cells #[.int .i64 0, .string ⟨#[]⟩, .slice none 0 0, .slice none 0 0] 25)) s (by unfold maxLen; have := HS.out; omega)
    rw [hw1] at this
    show BytesAt _ _ _
    simpa using this
  have hbx := fun j => b1.cell (p := ⟨w.heap.size, j, none⟩) (by simp)
  have hfx := fun j => b1.frozen (p := ⟨w.heap.size, j, none⟩) (by simp)
  simp only [World.size_alloc] at hcv
  have BL : Hid (Below w.heap.size w w1) := ((Below.refl _ _).alloc (Nat.le_refl _) _).trans (b1.mono (by simp))
  clear hw1 hcap b1
  go_enter Tryd.func21, Tryd.ntmps21
  go_wp2
  refine bodyPost_ret (v := .agg #[.int .i64 st, .string ⟨#[]⟩, .slice none 0 0, .slice (some ⟨w.heap.size + 1, 0, none⟩) s.size cap]) (by simp [results, Tryd.results21, go_sem, hbx]) rfl ⟨_, rfl, ?_, ?_⟩
  · refine ⟨⟨none, 0, some ⟨w.heap.size + 1, 0, none⟩, cap, rfl, ⟨fun i h => absurd h (by simp), by simp, fun h hh => absurd hh (by simp)⟩, ?_, fun _ => rfl, (fun e => by cases e), by simp, by simp⟩, by simp [B_size], by simp, HS.out⟩
    iterate 4 (refine BytesAt.set ?_ _ _ (by intro b off e; simp at e; simp; omega))
    exact BY.out
  · iterate 4 (refine Below.setCell ?_ (by simp) _)
    exact BL.out

set_option maxHeartbeats 1000000 in
theorem rsay_new (st : Int) (s : ByteArray) (w : World) (hs : s.size ≤ 140737488351232) :
    Calls Tryd.prog 22 #[.int .i64 st, .string s] w fun e w' => ∃ d, e = .returned (.agg #[.int .i64 st, .string ⟨#[]⟩, .slice none 0 0, .slice (some ⟨w.heap.size + 1, 0, none⟩) s.size d]) ∧ MsAt w' (.agg #[.int .i64 st, .string ⟨#[]⟩, .slice none 0 0, .slice (some ⟨w.heap.size + 1, 0, none⟩) s.size d]) ⟨st, B [], [], s⟩ ∧ Below w.heap.size w w' := by
  have HS : Hid (s.size ≤ 140737488351232) := hs
  clear hs
  have hcv := Lib.run_convert_string_bytes (P := Tryd.prog) (w.alloc (.cells #[.int .i64 0, .string ⟨#[]⟩, .slice none 0 0, .slice none 0 0] 25)) 9 23 5 s Tryd.underlying9 Tryd.underlying23 Tryd.underlying5
  obtain ⟨w1, hw1⟩ : ∃ w1, Lib.bytesWorld (w.alloc (.cells #[.int .i64 0, .string ⟨#[]⟩, .slice none 0 0, .slice none 0 0] 25)) 5 s = w1 := ⟨_, rfl⟩
  obtain ⟨cap, hcap⟩ : ∃ cap, grownCap (w.alloc (.cells #[.int .i64 0, .string ⟨#[]⟩, .slice none 0 0, .slice none 0 0] 25)) s.size 0 5 = cap := ⟨_, rfl⟩
  rw [hw1, hcap] at hcv
  have b1 : Below (w.alloc (.cells #[.int .i64 0, .string ⟨#[]⟩, .slice none 0 0, .slice none 0 0] 25)).heap.size (w.alloc (.cells #[.int .i64 0, .string ⟨#[]⟩, .slice none 0 0, .slice none 0 0] 25)) w1 := by rw [← hw1]; exact below_bytes _ _
  have BY : Hid (BytesAt w1 (some ⟨w.heap.size + 1, 0, none⟩) s) := by
    have := bytesAt_new (w.alloc (.cells #[.int .i64 0, .string ⟨#[]⟩, .slice none 0 0, .slice none 0 0] 25)) s (by unfold maxLen; have := HS.out; omega)
    rw [hw1] at this
    show BytesAt _ _ _
    simpa using this
  have hbx := fun j => b1.cell (p := ⟨w.heap.size, j, none⟩) (by simp)
  have hfx := fun j => b1.frozen (p := ⟨w.heap.size, j, none⟩) (by simp)
  simp only [World.size_alloc] at hcv
  have BL : Hid (Below w.heap.size w w1) := ((Below.refl _ _).alloc (Nat.le_refl _) _).trans (b1.mono (by simp))
  clear hw1 hcap b1
  go_enter Tryd.func22, Tryd.ntmps22
  go_wp2
  refine bodyPost_ret (v := .agg #[.int .i64 st, .string ⟨#[]⟩, .slice none 0 0, .slice (some ⟨w.heap.size + 1, 0, none⟩) s.size cap]) (by simp [results, Tryd.results22, go_sem, hbx]) rfl ⟨_, rfl, ?_, ?_⟩
  · refine ⟨⟨none, 0, some ⟨w.heap.size + 1, 0, none⟩, cap, rfl, ⟨fun i h => absurd h (by simp), by simp, fun h hh => absurd hh (by simp)⟩, ?_, fun _ => rfl, (fun e => by cases e), by simp, by simp⟩, by simp [B_size], by simp, HS.out⟩
    iterate 4 (refine BytesAt.set ?_ _ _ (by intro b off e; simp at e; simp; omega))
    exact BY.out
  · iterate 4 (refine Below.setCell ?_ (by simp) _)
    exact BL.out

theorem msAt_set4 {W : World} {st : Int} {s : ByteArray} {b d h : Nat} (hm : MsAt W (.agg #[.int .i64 st, .string ⟨#[]⟩, .slice none 0 0, .slice (some ⟨b, 0, none⟩) s.size d]) ⟨st, B [], [], s⟩) (hb : b ≠ h) (u0 u1 u2 u3 : Value) :
    MsAt ((((W.setCell ⟨h, 0, none⟩ u0).setCell ⟨h, 1, none⟩ u1).setCell ⟨h, 2, none⟩ u2).setCell ⟨h, 3, none⟩ u3) (.agg #[.int .i64 st, .string ⟨#[]⟩, .slice none 0 0, .slice (some ⟨b, 0, none⟩) s.size d]) ⟨st, B [], [], s⟩ := by
  obtain ⟨⟨ao, c, bo, d', e, h1, h2, h3, h4, h5, h6⟩, hp, hr⟩ := hm
  have e2 : bo = some ⟨b, 0, none⟩ := by simp at e; exact e.2.2.1.symm
  subst e2
  refine ⟨⟨none, 0, some ⟨b, 0, none⟩, d, rfl, ⟨fun i h => absurd h (by simp), by simp, fun h hh => absurd hh (by simp)⟩, ?_, fun _ => rfl, (fun e => by cases e), by simp, by simp⟩, hp, hr⟩
  iterate 4 (refine BytesAt.set ?_ _ _ (by intro b' off e; simp at e; obtain ⟨rfl, _⟩ := e; exact hb))
  exact h2

/-- The answer to a fault. -/
def tellM (k : Int) : Ms := ⟨statusI k, B [], [], kindS k⟩
def tellV (k : Int) (b d : Nat) : Value := .agg #[.int .i64 (statusI k), .string ⟨#[]⟩, .slice none 0 0, .slice (some ⟨b, 0, none⟩) (kindS k).size d]

set_option maxRecDepth 100000 in
set_option maxHeartbeats 1000000 in
theorem faultAnswer_any (k fi ca inn : Int) (t : ByteArray) (w : World) :
    Calls Tryd.prog 35 #[fltV k fi ca inn t] w fun e w' => ∃ b d, e = .returned (tellV k b d) ∧ MsAt w' (tellV k b d) (tellM k) ∧ Below w.heap.size w w' := by
  unfold fltV
  have HZ : Hid ((kindS k).size ≤ 140737488351232) := by have := kindS_size k; show _ ≤ _; omega
  go_enter Tryd.func35, Tryd.ntmps35
  go_wp2_with fail
  go_region_with (first
    | (go_at_call 33; refine (status_ex _ _ _ _ _ _).mono ?_; rintro e w' ⟨rfl, rfl⟩)
    | (go_at_call 54; refine (kindName_any _ _).mono ?_; rintro e w' ⟨rfl, rfl⟩)
    | (go_at_call 21; refine (answer_new _ _ _ HZ.out).mono ?_; rintro e w' ⟨d, rfl, hms, hb⟩; have hc := fun j => hb.cell (p := ⟨w.heap.size + 1, j, none⟩) (by simp); have hf := fun j => hb.frozen (p := ⟨w.heap.size + 1, j, none⟩) (by simp)))
  all_goals
    go_wp2
    refine bodyPost_ret (v := tellV k _ d) (by simp [results, Tryd.results35, go_sem, hc, tellV]) rfl ⟨_, _, rfl, msAt_set4 hms (by simp; omega) _ _ _ _, ?_⟩
    iterate 4 (refine Below.setCell ?_ (by simp) _)
    refine Below.trans (Below.drew (((Below.refl _ w).alloc (Nat.le_refl _) _ |>.alloc (by simp) _) |>.alloc (by simp; omega) _)) (hb.mono (by simp; omega))
end Go.Proofs.YtlkfkhpokkjkpaaDoor
