/- Package flat: the next one that can be asked. -/
import Derived.Test.YtbpmcabeghbalaaFlA
namespace Go.Proofs.Ytbpmcabeghbalaa
open Go.RowKit

/-- The next one from the d-th from behind. -/
def nx (bs : List Bool) : Nat → Nat
  | 0 => bs.length
  | d + 1 => if bs.getD (bs.length - (d + 1)) false then bs.length - (d + 1) else nx bs d
theorem nx_le (bs : List Bool) : ∀ d, nx bs d ≤ bs.length
  | 0 => Nat.le_refl _
  | d + 1 => by
    unfold nx
    split
    · omega
    · exact nx_le bs d
theorem nx_succ (bs : List Bool) (d : Nat) : nx bs (d + 1) = if bs.getD (bs.length - (d + 1)) false then bs.length - (d + 1) else nx bs d := rfl

/-- The row of next ones: from n - d on all is told. -/
structure NxAt (w : World) (g : Nat) (bs : List Bool) (d : Nat) : Prop where
  v : ∃ L, VAt w g L ∧ L.length = bs.length + 1 ∧ ∀ j, bs.length - d ≤ j → j ≤ bs.length → L[j]? = some (.int .i64 (nx bs (bs.length - j)))
theorem NxAt.put {w : World} {g : Nat} {bs : List Bool} {d i : Nat} (h : NxAt w g bs d) (hi : bs.length = i + d + 1) : NxAt (w.setCell ⟨g, i, none⟩ (.int .i64 (nx bs (d + 1)))) g bs (d + 1) := by
  obtain ⟨L, v, hl, ha⟩ := h.v
  refine ⟨_, v.put i _, by simpa using hl, fun j h1 h2 => ?_⟩
  by_cases hj : j = i
  · subst hj
    rw [List.getElem?_set_self (by omega), show bs.length - j = d + 1 by omega]
  · rw [List.getElem?_set_ne (by omega)]
    exact ha j (by omega) h2
theorem NxAt.cell {w : World} {g : Nat} {bs : List Bool} {d i : Nat} (h : NxAt w g bs d) (hi : i ≤ bs.length) : (∃ v, w.cell? ⟨g, i, none⟩ = some v) ∧ w.frozen? ⟨g, i, none⟩ = false := by
  obtain ⟨L, v, hl, -⟩ := h.v
  exact ⟨⟨_, v.c i L[i] (List.getElem?_eq_getElem (by omega))⟩, v.fz i⟩
theorem NxAt.keep {w w' : World} {g B d : Nat} {bs : List Bool} (h : NxAt w g bs d) (b : Below B w w') (hB : g < B) : NxAt w' g bs d := by
  obtain ⟨L, v, hl, ha⟩ := h.v
  exact ⟨L, v.keep b hB, hl, ha⟩

set_option maxRecDepth 100000 in
set_option maxHeartbeats 1000000 in
theorem nexts_any (bs : List Bool) (g c : Nat) (w : World) (hv : VAt w g (bs.map Value.bool)) (h6 : bs.length ≤ 6) :
    Calls Try.prog 10 #[.slice (some ⟨g, 0, none⟩) bs.length c] w fun e w' => e = .returned (.slice (some ⟨w.heap.size, 0, none⟩) (bs.length + 1) (bs.length + 1)) ∧ NxAt w' w.heap.size bs bs.length ∧ Below w.heap.size w w' := by
  have HV : Hid (VAt w g (bs.map Value.bool)) := hv
  have HG : Hid (g < w.heap.size) := hv.lt
  obtain ⟨w0, hmk, v0, b0⟩ := Try.mk32 w (bs.length + 1) (by omega)
  have hmk : (Instr.makeSlice 32 (.int .i64 ((bs.length : Int) + 1)) (.int .i64 ((bs.length : Int) + 1))).run Try.prog w = .ok (.slice (some ⟨w.heap.size, 0, none⟩) (bs.length + 1) (bs.length + 1)) w0 := hmk
  have q0 : w0.cell? ⟨w.heap.size, bs.length, none⟩ = some (.int .i64 0) := v0.c _ _ (by simp)
  have q1 : w0.frozen? ⟨w.heap.size, bs.length, none⟩ = false := v0.fz _
  have V0 : Hid (NxAt (w0.setCell ⟨w.heap.size, bs.length, none⟩ (.int .i64 bs.length)) w.heap.size bs 0) := by
    refine ⟨_, v0.put bs.length _, by simp, fun j h1 h2 => ?_⟩
    obtain rfl : j = bs.length := by omega
    rw [List.getElem?_set_self (by simp)]
    simp [nx]
  have B0 : Hid (Below w.heap.size w (w0.setCell ⟨w.heap.size, bs.length, none⟩ (.int .i64 bs.length))) := b0.setCell (Nat.le_refl _) _
  clear hv v0 b0
  go_enter Try.func10, Try.ntmps10
  go_wp2
  go_loopw [4, 5] (fun x i wr => ∃ d : Nat, d ≤ bs.length ∧ x = .int .i64 (nx bs d) ∧ i = .int .i64 ((bs.length : Int) - 1 - d) ∧ Hid (Below w.heap.size w wr) ∧ Hid (NxAt wr w.heap.size bs d)) (fun _ i _ => (intOf i + 1).toNat)
  case atStart => exact ⟨0, by omega, rfl, by simp, B0, V0⟩
  case round =>
    clear hmk V0 B0 q0 q1
    obtain ⟨d, hd, rfl, rfl, HB, HN⟩ := hrel
    by_cases hlt : d < bs.length
    · obtain ⟨i, hi⟩ : ∃ i : Nat, bs.length = i + d + 1 := ⟨bs.length - (d + 1), by omega⟩
      have ez : (bs.length : Int) - 1 - d = (i : Int) := by omega
      rw [ez]
      have hil : i < bs.length := by omega
      have c0 : wr.cell? ⟨g, i, none⟩ = some (.bool bs[i]) := (HB.out.cell (p := ⟨g, i, none⟩) HG.out).trans (HV.out.c i _ (by simp [hil]))
      obtain ⟨⟨v1, c1⟩, c2⟩ := HN.out.cell (i := i) (by omega)
      have hi0 : (0 : Int) ≤ (i : Int) := by omega
      have hil' : (i : Int) < (bs.length : Int) := by omega
      have hil2 : (i : Int) < (bs.length : Int) + 1 := by omega
      have hil3 : i < bs.length + 1 := by omega
      have i6 : (i : Int) ≤ 6 := by omega
      have HX : Hid (nx bs (d + 1) = if bs[i] then i else nx bs d) := by
        show nx bs (d + 1) = _
        rw [nx_succ, show bs.length - (d + 1) = i by omega, List.getD_eq_getElem?_getD, List.getElem?_eq_getElem hil]
        rfl
      have P1 : Hid (NxAt (wr.setCell ⟨w.heap.size, i, none⟩ (.int .i64 (nx bs (d + 1)))) w.heap.size bs (d + 1)) := HN.out.put hi
      have HI : Hid (bs.length = i + d + 1) := hi
      have HD : Hid ((bs.length : Int) - 1 - ((d + 1 : Nat) : Int) = (i : Int) - 1) := by show _ = _; omega
      clear HN ez
      cases hbs : bs[i] with
      | true =>
        rw [hbs] at c0 HX
        have e : nx bs (d + 1) = i := HX.out
        rw [e] at P1
        have HE : Hid (nx bs (d + 1) = i) := e
        clear hbs e HX hi hd
        go_wp2
        go_roundw
        case rel => exact ⟨d + 1, hlt, by rw [HE.out], by rw [HD.out], HB.out.setCell (Nat.le_refl _) _, P1⟩
        case measure => simp [intOf]
      | false =>
        rw [hbs] at c0 HX
        have e : nx bs (d + 1) = nx bs d := HX.out
        rw [e] at P1
        have HE : Hid (nx bs (d + 1) = nx bs d) := e
        clear hbs e HX hi hd
        go_wp2
        go_roundw
        case rel => exact ⟨d + 1, hlt, by rw [HE.out], by rw [HD.out], HB.out.setCell (Nat.le_refl _) _, P1⟩
        case measure => simp [intOf]
    · obtain rfl : d = bs.length := by omega
      have ez : (bs.length : Int) - 1 - (bs.length : Int) = -1 := by omega
      rw [ez]
      clear ez
      go_wp2
      go_ret
      exact ⟨rfl, HN.out, HB.out⟩
end Go.Proofs.Ytbpmcabeghbalaa
