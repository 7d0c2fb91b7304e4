/- Package guard's Call, whatever it is told to do, comes to what the document's own Called comes to. -/
import Derived.Test.YtfpaoalfkmpjpabDoorGuardG
namespace Go.Proofs.YtfpaoalfkmpjpabDoor
open Go.RowKit

set_option maxHeartbeats 2000000 in
theorem call_other (fi ca d : Int) (t : ByteArray) (w : World) (hg : Glob w) (hd : d ≠ 0 ∧ d ≠ 1 ∧ d ≠ 6 ∧ d ≠ 2 ∧ d ≠ 3 ∧ d ≠ 4 ∧ d ≠ 5) :
    Calls Tryd.prog 5 #[.int .i64 fi, .int .i64 ca, .int .i64 d, .string t] w fun e w' => e = .returned (outV 0 1 (-1) 0 0 ⟨#[]⟩) ∧ Below w.heap.size w w' := by
  have hm := hmf
  have HG : Hid (Glob w) := hg
  have HD : Hid (d ≠ 0 ∧ d ≠ 1 ∧ d ≠ 6 ∧ d ≠ 2 ∧ d ≠ 3 ∧ d ≠ 4 ∧ d ≠ 5) := hd
  clear hg hd
  go_enter_defers Tryd.func5, Tryd.ntmps5
  go_wp2_with fail
  refine (act_other d t (callW w fi ca) HD.out).mono ?_
  rintro e w1 ⟨rfl, b1⟩
  have hs := callW_size w fi ca
  have s1 := b1.size
  rw [hs] at s1
  have B1 : Hid (Below w.heap.size w w1) := ((callW_below w fi ca).trans (b1.mono (by omega)) : Below w.heap.size w w1)
  have B0 : Hid (Below (callW w fi ca).heap.size (callW w fi ca) w1) := b1
  clear b1
  go_wp2_with fail
  refine (as_hit 1 (-1) 0 0 ⟨#[]⟩ w1.heap.size _ ?_ (.int .i64 0) (.int .i64 0) (.int .i64 0) (.string ⟨#[]⟩) (.int .i64 0) (by simp) (by simp) (by simp) (by simp) (by simp) (fun j => by simp)).mono ?_
  · exact HG.out.below (B1.out.alloc (by omega) _) HG.out.pos
  rintro e w2 ⟨rfl, W4, b4, rfl⟩
  have s4 := b4.size
  simp only [World.size_alloc] at s4
  have K : Hid (Below w1.heap.size w1 W4) := (((Below.refl _ _).alloc (Nat.le_refl _) _).trans (b4.mono (by simp)) : Below w1.heap.size w1 W4)
  have B4 : Hid (Below w.heap.size w (setF W4 w1.heap.size 1 (-1) 0 0 ⟨#[]⟩)) := (below_setF (B1.out.trans (K.out.mono (by omega))) (by omega) _ _ _ _ _ : Below w.heap.size w _)
  obtain ⟨y0, y1, y2, y3, y4⟩ := setF_at W4 w1.heap.size 1 (-1) 0 0 ⟨#[]⟩ (c0 := .int .i64 0) (c1 := .int .i64 0) (c2 := .int .i64 0) (c3 := .string ⟨#[]⟩) (c4 := .int .i64 0) (by rw [b4.cell (by simp)]; simp) (by rw [b4.cell (by simp)]; simp) (by rw [b4.cell (by simp)]; simp) (by rw [b4.cell (by simp)]; simp) (by rw [b4.cell (by simp)]; simp)
  have K0 : Hid (Below (callW w fi ca).heap.size (callW w fi ca) (setF W4 w1.heap.size 1 (-1) 0 0 ⟨#[]⟩)) := (below_setF (B0.out.trans (K.out.mono (by omega))) (by omega) _ _ _ _ _ : Below (callW w fi ca).heap.size (callW w fi ca) _)
  have ho : OutAt (setF W4 w1.heap.size 1 (-1) 0 0 ⟨#[]⟩) (w.heap.size + 1 + 1) 0 0 0 0 0 ⟨#[]⟩ := (callW_out w fi ca).keep K0.out (by omega)
  have zf : ∀ j, (setF W4 w1.heap.size 1 (-1) 0 0 ⟨#[]⟩).frozen? ⟨w.heap.size + 1 + 1, j, none⟩ = false := fun j => (K0.out.frozen (by simp; omega)).trans (callW_frozen w fi ca j)
  obtain ⟨W5, hW5⟩ : ∃ W5, setF W4 w1.heap.size 1 (-1) 0 0 ⟨#[]⟩ = W5 := ⟨_, rfl⟩
  rw [hW5] at y0 y1 y2 y3 y4 ho zf B4
  rw [hW5]
  obtain ⟨z0, z1, z2, z3, z4, z5⟩ := ho
  clear K0 K hW5 b4 s4
  go_wp2
  refine leaves_cons (f := 8) (args := #[.pointer (some ⟨w.heap.size, 0, none⟩), .pointer (some ⟨w.heap.size + 1, 0, none⟩), .pointer (some ⟨w.heap.size + 1 + 1, 0, none⟩)]) (by simp) (by simp [go_sem]) ?_
  refine (catch_idle _ _ _ _).mono ?_
  rintro e u' w2 ⟨rfl, rfl, rfl⟩
  simp [Leaves, settle, results, Tryd.results5, go_sem, outV, z0, z1, z2, z3, z4, z5]
  iterate 6 (refine Below.setCell ?_ (by simp; omega) _)
  exact B4.out

/-- Call tells what comes of any call, whatever it does. -/
theorem call_any (fi ca d : Int) (t : ByteArray) (w : World) (hg : Glob w) :
    Calls Tryd.prog 5 #[.int .i64 fi, .int .i64 ca, .int .i64 d, .string t] w fun e w' => e = .returned (calledV fi ca d t) ∧ Below w.heap.size w w' := by
  rcases do_cases d with rfl | rfl | rfl | rfl | rfl | rfl | rfl | hd
  · exact call_goes fi ca 0 t w (.inl rfl)
  · exact call_goes fi ca 1 t w (.inr (.inl rfl))
  · exact call_goes fi ca 6 t w (.inr (.inr rfl))
  · exact call_fail fi ca t w hg
  · exact call_caught fi ca 3 2 0 t t 9 (.string t) w hg (fun W => (act_panic t W).mono fun e w' ⟨h, hw⟩ => ⟨h, hw ▸ Below.refl _ _⟩) (fun W _ => caught_text t W)
  · exact call_caught fi ca 4 2 1 t t 35 (fltV 1 (-1) 0 0 t) w hg (fun W => act_wrap t W) (fun W hW => caught_wrap t W hW)
  · exact call_caught fi ca 5 3 0 t ⟨#[]⟩ 42 (.int .i64 3) w hg (fun W => (act_fatal t W).mono fun e w' ⟨h, hw⟩ => ⟨h, hw ▸ Below.refl _ _⟩) (fun W _ => caught_fatal W)
  · have e : calledV fi ca d t = outV 0 1 (-1) 0 0 ⟨#[]⟩ := by
      obtain ⟨h0, h1, h6, h2, h3, h4, h5⟩ := hd
      simp [calledV, h0, h1, h2, h3, h4, h5, h6]
    rw [e]
    exact call_other fi ca d t w hg hd
end Go.Proofs.YtfpaoalfkmpjpabDoor
