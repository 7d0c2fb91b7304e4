/- Walks of package guard's Call: whatever the call does, it comes back. -/
import Derived.Test.YtfpaoalfkmpjpabDoorGuardF
namespace Go.Proofs.YtfpaoalfkmpjpabDoor
open Go.RowKit

theorem hmf : ∀ (fn : Fn) (first cap : Array Value) (w : World), (Instr.makeFunc fn first cap).run Tryd.prog w = .ok (.func fn first cap) w := fun _ _ _ _ => rfl

/-- What Call lays out first: the filter, the call, and what comes. -/
def callW (w : World) (fi ca : Int) : World :=
  ((w.alloc (.cells #[.int .i64 fi] 3)).alloc (.cells #[.int .i64 ca] 3)).alloc (.cells #[.int .i64 0, .int .i64 0, .int .i64 0, .int .i64 0, .string ⟨#[]⟩, .int .i64 0] 25)
theorem callW_size (w : World) (fi ca : Int) : (callW w fi ca).heap.size = w.heap.size + 1 + 1 + 1 := by simp [callW]
theorem callW_below (w : World) (fi ca : Int) : Below w.heap.size w (callW w fi ca) :=
  (((Below.refl _ _).alloc (Nat.le_refl _) _).alloc (by simp) _).alloc (by simp; omega) _
theorem callW_fi (w : World) (fi ca : Int) : (callW w fi ca).cell? ⟨w.heap.size, 0, none⟩ = some (.int .i64 fi) := by
  simp [callW, go_sem]
theorem callW_ca (w : World) (fi ca : Int) : (callW w fi ca).cell? ⟨w.heap.size + 1, 0, none⟩ = some (.int .i64 ca) := by simp [callW, go_sem]
theorem callW_out (w : World) (fi ca : Int) : OutAt (callW w fi ca) (w.heap.size + 1 + 1) 0 0 0 0 0 ⟨#[]⟩ := by
  refine ⟨?_, ?_, ?_, ?_, ?_, ?_⟩ <;> simp [callW, go_sem]
theorem callW_frozen (w : World) (fi ca : Int) (j : Nat) : (callW w fi ca).frozen? ⟨w.heap.size + 1 + 1, j, none⟩ = false := by simp [callW, go_sem]
theorem OutAt.keep {w w' : World} {B b : Nat} {d k fi ca inn : Int} {s : ByteArray} (h : OutAt w b d k fi ca inn s) (hb : Below B w w') (hB : b < B) : OutAt w' b d k fi ca inn s :=
  ⟨(hb.cell hB).trans h.c0, (hb.cell hB).trans h.c1, (hb.cell hB).trans h.c2, (hb.cell hB).trans h.c3, (hb.cell hB).trans h.c4, (hb.cell hB).trans h.c5⟩

theorem call_goes (fi ca d : Int) (t : ByteArray) (w : World) (h : d = 0 ∨ d = 1 ∨ d = 6) :
    Calls Tryd.prog 5 #[.int .i64 fi, .int .i64 ca, .int .i64 d, .string t] w fun e w' => e = .returned (outV d 0 0 0 0 ⟨#[]⟩) ∧ Below w.heap.size w w' := by
  have hm := hmf
  have HD : Hid (d = 0 ∨ d = 1 ∨ d = 6) := h
  clear h
  go_enter_defers Tryd.func5, Tryd.ntmps5
  go_wp2_with fail
  refine (act_goes d t _ HD.out).mono ?_
  rintro e w1 ⟨rfl, rfl⟩
  go_wp2
  refine leaves_cons (f := 8) (args := #[.pointer (some ⟨w.heap.size, 0, none⟩), .pointer (some ⟨w.heap.size + 1, 0, none⟩), .pointer (some ⟨w.heap.size + 1 + 1, 0, none⟩)]) (by simp) (by simp [go_sem]) ?_
  refine (catch_idle _ _ _ _).mono ?_
  rintro e u' w2 ⟨rfl, rfl, rfl⟩
  simp [Leaves, settle, results, Tryd.results5, go_sem, outV]
  exact (((Below.refl _ _).alloc (Nat.le_refl _) _).alloc (by simp) _).alloc (by simp; omega) _

/-- A call that panics, by whatever is caught. -/
theorem call_caught (fi ca d k inn : Int) (t s : ByteArray) (u : TypeId) (pv : Value) (w : World) (hg : Glob w)
    (hact : ∀ W, Calls Tryd.prog 11 #[.int .i64 d, .string t] W fun e w' => e = .panicked [{ v := .iface u pv, recovered := false }] ∧ Below W.heap.size W w')
    (hcau : ∀ W, Glob W → Calls Tryd.prog 10 #[.iface u pv] W fun e w' => e = .returned (fltV k 0 0 inn s) ∧ Below W.heap.size W w') :
    Calls Tryd.prog 5 #[.int .i64 fi, .int .i64 ca, .int .i64 d, .string t] w fun e w' => e = .returned (outV 0 k fi ca inn s) ∧ Below w.heap.size w w' := by
  have hm := hmf
  have HG : Hid (Glob w) := hg
  have HA : Hid (∀ W, Calls Tryd.prog 11 #[.int .i64 d, .string t] W fun e w' => e = .panicked [{ v := .iface u pv, recovered := false }] ∧ Below W.heap.size W w') := hact
  have HC : Hid (∀ W, Glob W → Calls Tryd.prog 10 #[.iface u pv] W fun e w' => e = .returned (fltV k 0 0 inn s) ∧ Below W.heap.size W w') := hcau
  clear hg hact hcau
  go_enter_defers Tryd.func5, Tryd.ntmps5
  go_wp2_with fail
  refine (HA.out (callW w fi ca)).mono ?_
  rintro e w1 ⟨rfl, b1⟩
  have hs := callW_size w fi ca
  have B1 : Hid (Below w.heap.size w w1) := ((callW_below w fi ca).trans (b1.mono (by omega)) : Below w.heap.size w w1)
  go_wp2
  refine leaves_cons (f := 8) (args := #[.pointer (some ⟨w.heap.size, 0, none⟩), .pointer (some ⟨w.heap.size + 1, 0, none⟩), .pointer (some ⟨w.heap.size + 1 + 1, 0, none⟩)]) (by simp) (by simp [go_sem]) ?_
  refine (catch_any u pv k fi ca inn s _ _ _ [] w1 HC.out (HG.out.below B1.out HG.out.pos) ((b1.cell (by simp; omega)).trans (callW_fi w fi ca)) ((b1.cell (by simp; omega)).trans (callW_ca w fi ca)) ((callW_out w fi ca).keep b1 (by omega)) (fun j => (b1.frozen (by simp; omega)).trans (callW_frozen w fi ca j))).mono ?_
  rintro e u' w2 ⟨rfl, rfl, ho, hb⟩
  have B2 : Hid (Below w.heap.size w w2) := (B1.out.trans (hb w.heap.size (by omega)) : Below w.heap.size w w2)
  simp [Leaves, settle, results, Tryd.results5, go_sem, outV, ho.c0, ho.c1, ho.c2, ho.c3, ho.c4, ho.c5]
  exact B2.out

theorem methodErr (v : Value) (w : World) : (Go.method 226 56 v "Error").run Tryd.prog w = .ok (64, v) w := by kernel_rfl
theorem errStr_any (b : Nat) (t : ByteArray) (w : World) (h : w.cell? ⟨b, 0, none⟩ = some (.string t)) : Calls Tryd.prog 64 #[.pointer (some ⟨b, 0, none⟩)] w fun e w' => e = .returned (.string t) ∧ w' = w := by
  go_enter Tryd.func64, Tryd.ntmps64
  go_wp2
  go_ret
  exact ⟨rfl, rfl⟩
theorem act_fails (t : ByteArray) (w : World) : Calls Tryd.prog 11 #[.int .i64 2, .string t] w fun e w' => ∃ b, e = .returned (.iface 56 (.pointer (some ⟨b, 0, none⟩))) ∧ w'.cell? ⟨b, 0, none⟩ = some (.string t) ∧ Below w.heap.size w w' := by
  refine (act_fail t w).mono ?_
  rintro e w' ⟨rfl, rfl⟩
  exact ⟨_, rfl, by simp, (Below.refl _ _).alloc (Nat.le_refl _) _⟩

/-- What a region ahead of Call's return must come to: the result can be read, and the call that is deferred stands. -/
def backQ (w : World) (v : Value) : Exit → Act → World → Prop
  | .normal, a, w' => a.defers = [{ target := .fn (.func 8) #[.pointer (some ⟨w.heap.size, 0, none⟩), .pointer (some ⟨w.heap.size + 1, 0, none⟩), .pointer (some ⟨w.heap.size + 1 + 1, 0, none⟩)], args := #[] }] ∧ (results Tryd.f5 a.tmps).run Tryd.prog w' = .ok v w' ∧ Below w.heap.size w w'
  | _, _, _ => False

set_option maxHeartbeats 2000000 in
theorem call_fail (fi ca : Int) (t : ByteArray) (w : World) (hg : Glob w) :
    Calls Tryd.prog 5 #[.int .i64 fi, .int .i64 ca, .int .i64 2, .string t] w fun e w' => e = .returned (outV 0 1 fi ca 0 t) ∧ Below w.heap.size w w' := by
  have hm := hmf
  have mE := methodErr
  have HG : Hid (Glob w) := hg
  clear hg
  go_enter_defers Tryd.func5, Tryd.ntmps5
  go_wp2_with fail
  refine (act_fails t (callW w fi ca)).mono ?_
  rintro e w1 ⟨b, rfl, hbt, b1⟩
  have hs := callW_size w fi ca
  have s1 := b1.size
  rw [hs] at s1
  have lb := lt_of_cell hbt
  simp only at lb
  have B1 : Hid (Below w.heap.size w w1) := ((callW_below w fi ca).trans (b1.mono (by omega)) : Below w.heap.size w w1)
  have B0 : Hid (Below (callW w fi ca).heap.size (callW w fi ca) w1) := b1
  have HT : Hid (w1.cell? ⟨b, 0, none⟩ = some (.string t)) := hbt
  clear b1 hbt
  go_wp2_with fail
  refine (as_miss ⟨b, 0, none⟩ ⟨w1.heap.size, 0, none⟩ _ (HG.out.below (B1.out.alloc (by omega) _) HG.out.pos)).mono ?_
  rintro e w2 ⟨rfl, b2⟩
  have s2 := b2.size
  simp only [World.size_alloc] at s2
  have K : Hid (Below w1.heap.size w1 w2) := (((Below.refl _ _).alloc (Nat.le_refl _) _).trans (b2.mono (by simp)) : Below w1.heap.size w1 w2)
  have B2 : Hid (Below w.heap.size w w2) := (B1.out.trans (K.out.mono (by omega)) : Below w.heap.size w w2)
  have K0 : Hid (Below (callW w fi ca).heap.size (callW w fi ca) w2) := (B0.out.trans (K.out.mono (by omega)) : Below (callW w fi ca).heap.size (callW w fi ca) w2)
  have ht : w2.cell? ⟨b, 0, none⟩ = some (.string t) := (K.out.cell lb).trans HT.out
  have hp : w2.cell? ⟨w.heap.size, 0, none⟩ = some (.int .i64 fi) := (K0.out.cell (by simp; omega)).trans (callW_fi w fi ca)
  have hq : w2.cell? ⟨w.heap.size + 1, 0, none⟩ = some (.int .i64 ca) := (K0.out.cell (by simp; omega)).trans (callW_ca w fi ca)
  have HO : Hid (OutAt w2 (w.heap.size + 1 + 1) 0 0 0 0 0 ⟨#[]⟩) := ((callW_out w fi ca).keep K0.out (by omega) : OutAt w2 (w.heap.size + 1 + 1) 0 0 0 0 0 ⟨#[]⟩)
  have HF : Hid (∀ j, w2.frozen? ⟨w.heap.size + 1 + 1, j, none⟩ = false) := fun j => (K0.out.frozen (by simp; omega)).trans (callW_frozen w fi ca j)
  have lo : w.heap.size + 1 + 1 < w2.heap.size := by omega
  clear b2 hs s1 s2 lb
  go_wp2_with fail
  refine Code.wp_mono (Q := backQ w (outV 0 1 fi ca 0 t)) ?_ ?_
  · intro e a' w' h
    cases e with
    | normal =>
      obtain ⟨hd, hr, hb⟩ := h
      rename_i hk
      refine hk a' w' (wp_ret ?_)
      show Leaves Tryd.prog Tryd.f5 a'.tmps (fun e w' => e = .returned (outV 0 1 fi ca 0 t) ∧ Below w.heap.size w w') a'.defers .returning w'
      rw [hd]
      refine leaves_cons (f := 8) (args := #[.pointer (some ⟨w.heap.size, 0, none⟩), .pointer (some ⟨w.heap.size + 1, 0, none⟩), .pointer (some ⟨w.heap.size + 1 + 1, 0, none⟩)]) (by simp) (by simp [go_sem]) ?_
      refine (catch_idle _ _ _ _).mono ?_
      rintro e u' w4 ⟨rfl, rfl, rfl⟩
      exact ⟨_, hr, rfl, hb⟩
    | _ => exact h.elim
  go_region_with (first
    | (go_at_call 64; refine (errStr_any b t _ ?_).mono ?_; exact ht; rintro e w' ⟨rfl, rfl⟩)
    | (go_at_call 9; refine (place_any 1 0 0 0 fi ca t _).mono ?_; rintro e w3 ⟨rfl, b3⟩; unfold fltV; have y0 := (b3.cell (p := ⟨w.heap.size + 1 + 1, 0, none⟩) lo).trans HO.out.c0; have y1 := (b3.cell (p := ⟨w.heap.size + 1 + 1, 1, none⟩) lo).trans HO.out.c1; have y2 := (b3.cell (p := ⟨w.heap.size + 1 + 1, 2, none⟩) lo).trans HO.out.c2; have y3 := (b3.cell (p := ⟨w.heap.size + 1 + 1, 3, none⟩) lo).trans HO.out.c3; have y4 := (b3.cell (p := ⟨w.heap.size + 1 + 1, 4, none⟩) lo).trans HO.out.c4; have y5 := (b3.cell (p := ⟨w.heap.size + 1 + 1, 5, none⟩) lo).trans HO.out.c5; have yf := fun j => (b3.frozen (p := ⟨w.heap.size + 1 + 1, j, none⟩) lo).trans (HF.out j)))
  all_goals
    refine ⟨rfl, by simp [results, Tryd.results5, go_sem, outV, y0, y1, y2, y3, y4, y5], ?_⟩
    iterate 6 (refine Below.setCell ?_ (by simp; omega) _)
    exact B2.out.drew.trans (b3.mono (by show w.heap.size ≤ w2.heap.size; omega))
end Go.Proofs.YtfpaoalfkmpjpabDoor
