/- Package flat: what filters can, by a row of bools; the next one that can be asked. -/
import Derived.Test.YtbpmcabeghbalaaCapD
import Derived.Test.YtbpmcabeghbalaaCapF
namespace Go.Proofs.Ytbpmcabeghbalaa
open Go.RowKit

/-- Values that lie at the head of a block. -/
structure VAt (w : World) (g : Nat) (l : List Value) : Prop where
  lt : g < w.heap.size
  c : ∀ j v, l[j]? = some v → w.cell? ⟨g, j, none⟩ = some v
  fz : ∀ j, w.frozen? ⟨g, j, none⟩ = false
theorem VAt.keep {w w' : World} {g B : Nat} {l : List Value} (h : VAt w g l) (b : Below B w w') (hB : g < B) : VAt w' g l :=
  ⟨Nat.lt_of_lt_of_le h.lt b.size, fun j v e => (b.cell (p := ⟨g, j, none⟩) hB).trans (h.c j v e), fun j => (b.frozen (p := ⟨g, j, none⟩) hB).trans (h.fz j)⟩
theorem VAt.far {w : World} {g : Nat} {l : List Value} (h : VAt w g l) (k j : Nat) (v : Value) (hk : g ≠ k) : VAt (w.setCell ⟨k, j, none⟩ v) g l :=
  ⟨by simpa using h.lt, fun i u e => by rw [World.cell?_setCell_other (h := fun e => by injection e; omega) ..]; exact h.c i u e, fun i => by simpa using h.fz i⟩
theorem VAt.put {w : World} {g : Nat} {l : List Value} (h : VAt w g l) (k : Nat) (v : Value) : VAt (w.setCell ⟨g, k, none⟩ v) g (l.set k v) := by
  refine ⟨by simpa using h.lt, fun j u e => ?_, fun j => by simpa using h.fz j⟩
  by_cases hj : j = k
  · subst hj
    have hl : j < l.length := by
      have := (List.getElem?_eq_some_iff.1 e).1
      simpa using this
    rw [List.getElem?_set_self hl] at e
    cases e
    exact World.cell?_setCell_same (h := h.c j l[j] (List.getElem?_eq_getElem hl)) ..
  · rw [List.getElem?_set_ne (by omega)] at e
    rw [World.cell?_setCell_other (h := fun e => by injection e; omega) ..]
    exact h.c j u e
theorem add_n (b off j : Nat) : (⟨b, off, none⟩ : Addr).add j = ⟨b, off + j, none⟩ := by unfold Addr.add; split <;> simp_all
theorem vat_of {w : World} {base e g n cap : Nat} {l : List Value} (h : w.ownsRow base e 1 (.slice (some ⟨g, 0, none⟩) n cap) n l) : VAt w g l := by
  have hc := h.cells (g := g) rfl
  exact ⟨(h.lt g rfl).2, fun j v e => by have := hc j v e; rw [add_n, Nat.zero_add] at this; exact this, fun j => h.frozenAt j⟩

theorem Try.info3 : (Try.prog.info? 3).map (fun i => (i.zero, i.size, i.bytes)) = some (some (.int .i64 0), 1, 8) := by kernel_rfl
theorem Try.info4 : (Try.prog.info? 4).map (fun i => (i.zero, i.size, i.bytes)) = some (some (.bool false), 1, 1) := by kernel_rfl
theorem Try.mk30 (w : World) (n : Nat) (hn : n ≤ 7) : ∃ w', (Instr.makeSlice 30 (.int .i64 (n : Int)) (.int .i64 (n : Int))).run Try.prog w = .ok (.slice (some ⟨w.heap.size, 0, none⟩) n n) w' ∧ VAt w' w.heap.size (List.replicate n (.bool false)) ∧ Below w.heap.size w w' := by
  obtain ⟨i, i1, i2, i3, i4⟩ := info_parts Try.info4
  obtain ⟨w', hr, ow, gr⟩ := run_makeSlice_full (P := Try.prog) w w.heap.size 30 4 i _ 1 Try.underlying30 i1 i2 i3 .i64 .i64 n (by omega) (by rw [i4]; omega) (by unfold maxLen; omega) (Nat.le_refl _)
  have hm : (madeCells (Value.bool false).cells (n * 1)).toList = List.replicate n (.bool false) := by rw [Nat.mul_one]; exact toList_madeCells_one _ n
  rw [hm] at ow
  exact ⟨w', hr, vat_of ow, (Below.refl _ _).grown gr (Nat.le_refl _) (fun k hk => by cases hk)⟩
theorem Try.mk32 (w : World) (n : Nat) (hn : n ≤ 7) : ∃ w', (Instr.makeSlice 32 (.int .i64 (n : Int)) (.int .i64 (n : Int))).run Try.prog w = .ok (.slice (some ⟨w.heap.size, 0, none⟩) n n) w' ∧ VAt w' w.heap.size (List.replicate n (.int .i64 0)) ∧ Below w.heap.size w w' := by
  obtain ⟨i, i1, i2, i3, i4⟩ := info_parts Try.info3
  obtain ⟨w', hr, ow, gr⟩ := run_makeSlice_full (P := Try.prog) w w.heap.size 32 3 i _ 1 Try.underlying32 i1 i2 i3 .i64 .i64 n (by omega) (by rw [i4]; omega) (by unfold maxLen; omega) (Nat.le_refl _)
  have hm : (madeCells (Value.int .i64 0).cells (n * 1)).toList = List.replicate n (.int .i64 0) := by rw [Nat.mul_one]; exact toList_madeCells_one _ n
  rw [hm] at ow
  exact ⟨w', hr, vat_of ow, (Below.refl _ _).grown gr (Nat.le_refl _) (fun k hk => by cases hk)⟩

/-- What filters can, as a row: the first k are told already. -/
def rowK (l : List Sv) (call : Int) (k : Nat) : List Value := (l.take k).map (fun s => .bool (canB s.k s.n call)) ++ List.replicate (l.length - k) (.bool false)
def rowL (l : List Sv) (call : Int) : List Bool := l.map (fun s => canB s.k s.n call)
theorem rowK_0 (l : List Sv) (call : Int) : rowK l call 0 = List.replicate l.length (.bool false) := by simp [rowK]
theorem rowK_end (l : List Sv) (call : Int) (k : Nat) (h : l.length ≤ k) : rowK l call k = (rowL l call).map Value.bool := by
  simp [rowK, rowL, List.take_of_length_le h, Nat.sub_eq_zero_of_le h, List.map_map, Function.comp_def]
theorem rowK_set (l : List Sv) (call : Int) (k : Nat) (h : k < l.length) : (rowK l call k).set k (.bool (canB l[k].k l[k].n call)) = rowK l call (k + 1) := by
  unfold rowK
  rw [List.set_append_right _ _ (by simp; omega)]
  have e : k - ((l.take k).map (fun s => Value.bool (canB s.k s.n call))).length = 0 := by simp; omega
  rw [e, show l.length - k = (l.length - (k + 1)) + 1 by omega, List.replicate_succ, List.set_cons_zero, List.take_succ_eq_append_getElem h, List.map_append, List.append_assoc]
  rfl
theorem rowK_at (l : List Sv) (call : Int) (k : Nat) (h : k < l.length) : (rowK l call k)[k]? = some (.bool false) := by
  unfold rowK
  rw [List.getElem?_append_right (by simp; omega), List.getElem?_replicate, if_pos (by simp; omega)]

set_option maxRecDepth 100000 in
set_option maxHeartbeats 1000000 in
theorem row_any (l : List Sv) (ao : Option Addr) (c : Nat) (call : Int) (w : World) (hl : RowsAt svL 4 w ao l) (h6 : l.length ≤ 6) :
    Calls Try.prog 9 #[.slice ao l.length c, .int .i64 call] w fun e w' => e = .returned (.slice (some ⟨w.heap.size, 0, none⟩) l.length l.length) ∧ VAt w' w.heap.size ((rowL l call).map Value.bool) ∧ Below w.heap.size w w' := by
  have HL : Hid (RowsAt svL 4 w ao l) := hl
  obtain ⟨w0, hmk, v0, b0⟩ := Try.mk30 w l.length (by omega)
  have V0 : Hid (VAt w0 w.heap.size (rowK l call 0)) := by rw [Hid, rowK_0]; exact v0
  have B0 : Hid (Below w.heap.size w w0) := b0
  clear hl v0 b0
  go_enter Try.func9, Try.ntmps9
  go_wp2
  go_loopw [13] (fun i wr => ∃ k : Nat, k ≤ l.length ∧ i = .int .i64 k ∧ Hid (Below w.heap.size w wr) ∧ Hid (VAt wr w.heap.size (rowK l call k))) (fun i _ => l.length - (intOf i).toNat)
  case atStart => exact ⟨0, by omega, rfl, B0, V0⟩
  case round =>
    clear hmk V0 B0
    obtain ⟨k, hk, rfl, HB, HV⟩ := hrel
    by_cases hlt : k < l.length
    · have hb := HL.out.below (Nat.le_refl _) HB.out
      obtain ⟨b, off, rfl, hbl, hc⟩ := hb.lies k hlt
      have c0 : wr.cell? ⟨b, off + k * 4, none⟩ = some (.int .i64 l[k].k) := hc 0 _ rfl
      have c1 : wr.cell? ⟨b, off + k * 4 + 1, none⟩ = some (.int .i64 l[k].n) := hc 1 _ rfl
      have c2 : wr.cell? ⟨b, off + k * 4 + 2, none⟩ = some (.string l[k].key) := hc 2 _ rfl
      have c3 : wr.cell? ⟨b, off + k * 4 + 3, none⟩ = some (.string l[k].text) := hc 3 _ rfl
      have hlt' : (k : Int) < (l.length : Int) := by omega
      have S := HB.out.size
      have HS : Hid (w.heap.size < wr.heap.size) := HV.out.lt
      clear hb hc
      go_wp2_with (go_at_call 15; refine (can_any _ _ _ _ call _).mono ?_; rintro e w' ⟨rfl, hb'⟩; have V1 : Hid (VAt w' w.heap.size (rowK l call k)) := (HV.out.keep ((Below.refl _ _).alloc (Nat.le_refl _) _) HS.out).keep hb' (by simp; exact Nat.lt_succ_of_lt HS.out); have q1 : w'.cell? ⟨w.heap.size, k, none⟩ = some (.bool false) := V1.out.c k _ (rowK_at l call k hlt); have q2 : w'.frozen? ⟨w.heap.size, k, none⟩ = false := V1.out.fz k; have B1 : Hid (Below w.heap.size w w') := (HB.out.alloc S _).trans (hb'.mono (by simp; omega)); clear hb')
      go_roundw
      case rel => exact ⟨k + 1, by omega, by go_num, B1.out.setCell (Nat.le_refl _) _, by rw [Hid, ← rowK_set l call k hlt]; exact V1.out.put k _⟩
      case measure => simp [intOf]; omega
    · go_wp2
      go_ret
      have e := rowK_end l call k (by omega)
      exact ⟨rfl, by rw [← e]; exact HV.out, HB.out⟩
end Go.Proofs.Ytbpmcabeghbalaa
