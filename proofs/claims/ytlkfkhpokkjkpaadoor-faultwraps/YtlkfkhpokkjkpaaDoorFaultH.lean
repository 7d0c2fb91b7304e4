/- The walk of the law FaultTells. -/
import Derived.Test.YtlkfkhpokkjkpaaDoorFaultG
import Derived.Deep.RegionHeld3
namespace Go.Proofs.YtlkfkhpokkjkpaaDoor
open Go.RowKit

theorem new_ex (n : Int) (w : World) : Calls Tryd.prog 32 #[.int .i64 n] w fun e w' => e = .returned (.agg #[.int .i64 n, .int .i64 (-1), .int .i64 0, .string ⟨#[]⟩, .int .i64 0]) ∧ Below w.heap.size w w' := new_any n w

/-- The fault's box as it lies, and nothing below is otherwise. -/
theorem five_keep2 {h : Nat} {w1 W w' : World} {x0 x1 x2 x3 x4 : Value} (hb : Below W.heap.size W w')
    (hs : W.cell? ⟨h, 0, none⟩ = some x0 ∧ W.cell? ⟨h, 1, none⟩ = some x1 ∧ W.cell? ⟨h, 2, none⟩ = some x2 ∧ W.cell? ⟨h, 3, none⟩ = some x3 ∧ W.cell? ⟨h, 4, none⟩ = some x4 ∧ Below (h + 1) w1 W ∧ h + 1 ≤ W.heap.size) :
    w'.cell? ⟨h, 0, none⟩ = some x0 ∧ w'.cell? ⟨h, 1, none⟩ = some x1 ∧ w'.cell? ⟨h, 2, none⟩ = some x2 ∧ w'.cell? ⟨h, 3, none⟩ = some x3 ∧ w'.cell? ⟨h, 4, none⟩ = some x4 ∧ Below (h + 1) w1 w' ∧ h + 1 ≤ w'.heap.size := by
  obtain ⟨a0, a1, a2, a3, a4, bl, sz⟩ := hs
  have c := fun j => hb.cell (p := ⟨h, j, none⟩) (by show h < _; omega)
  exact ⟨by rw [c]; exact a0, by rw [c]; exact a1, by rw [c]; exact a2, by rw [c]; exact a3, by rw [c]; exact a4, bl.trans (hb.mono sz), Nat.le_trans sz hb.size⟩
theorem five_bel {h : Nat} {w w1 W : World} {x0 x1 x2 x3 x4 : Value} (hw : Below w.heap.size w w1) (hh : w.heap.size ≤ h + 1)
    (hs : W.cell? ⟨h, 0, none⟩ = some x0 ∧ W.cell? ⟨h, 1, none⟩ = some x1 ∧ W.cell? ⟨h, 2, none⟩ = some x2 ∧ W.cell? ⟨h, 3, none⟩ = some x3 ∧ W.cell? ⟨h, 4, none⟩ = some x4 ∧ Below (h + 1) w1 W ∧ h + 1 ≤ W.heap.size) : Below w.heap.size w W := by
  obtain ⟨_, _, _, _, _, bl, _⟩ := hs
  exact hw.trans (bl.mono hh)
theorem sameB_tell (k : Int) : sameB (tellM k) (tellM k) = true := by simp [sameB]

set_option maxRecDepth 100000 in
set_option maxHeartbeats 4000000 in
theorem ftells_any (k fi ca inn kind : Int) (t : ByteArray) (w : World) (hk : wfI k) (hin : wfI inn) (hfi : wfI fi) (hca : wfI ca) (ht : t.size ≤ 281474976710656) (hg : GlobT w) :
    Calls Tryd.prog 6 #[fltV k fi ca inn t, .int .i64 kind] w fun e w' => e = .returned (.bool true) ∧ Below w.heap.size w w' := by
  unfold fltV
  have HK : Hid (wfI k) := hk
  have HI : Hid (wfI inn) := hin
  have HF : Hid (wfI fi) := hfi
  have HC : Hid (wfI ca) := hca
  have HT : Hid (t.size ≤ 281474976710656) := ht
  have HG : Hid (GlobT w) := hg
  clear hk hin hfi hca ht hg
  have hsame := sameB_tell k
  obtain ⟨w1, hw1⟩ : ∃ w1, w.alloc (.cells #[.int .i64 k, .int .i64 fi, .int .i64 ca, .string t, .int .i64 inn] 44) = w1 := ⟨_, rfl⟩
  have B1 : Hid (Below w.heap.size w w1) := by show Below _ _ _; rw [← hw1]; exact (Below.refl _ _).alloc (Nat.le_refl _) _
  have W2 : Hid (w.heap.size ≤ w.heap.size + 1) := by show _ ≤ _; omega
  have HS0 : Hid (w1.drew.cell? ⟨w.heap.size, 0, none⟩ = some (.int .i64 k) ∧ w1.drew.cell? ⟨w.heap.size, 1, none⟩ = some (.int .i64 fi) ∧ w1.drew.cell? ⟨w.heap.size, 2, none⟩ = some (.int .i64 ca) ∧ w1.drew.cell? ⟨w.heap.size, 3, none⟩ = some (.string t) ∧ w1.drew.cell? ⟨w.heap.size, 4, none⟩ = some (.int .i64 inn) ∧ Below (w.heap.size + 1) w1 w1.drew ∧ w.heap.size + 1 ≤ w1.drew.heap.size) := by
    show _ ∧ _
    refine ⟨?_, ?_, ?_, ?_, ?_, (Below.refl _ _).drew, ?_⟩ <;> (rw [← hw1]; simp)
  go_enter Tryd.func6, Tryd.ntmps6
  go_wp2_with fail
  clear hw1
  go_region_held3 (fun w' => w'.cell? ⟨w.heap.size, 0, none⟩ = some (.int .i64 k) ∧ w'.cell? ⟨w.heap.size, 1, none⟩ = some (.int .i64 fi) ∧ w'.cell? ⟨w.heap.size, 2, none⟩ = some (.int .i64 ca) ∧ w'.cell? ⟨w.heap.size, 3, none⟩ = some (.string t) ∧ w'.cell? ⟨w.heap.size, 4, none⟩ = some (.int .i64 inn) ∧ Below (w.heap.size + 1) w1 w' ∧ w.heap.size + 1 ≤ w'.heap.size) (first | exact five_keep2 (by assumption) (by assumption) | exact HS0)
    (first
      | (go_at_call 28; refine (faultIs_any k fi ca inn kind t _).mono ?_; rintro e w' ⟨rfl, hb⟩)
      | (go_at_call 29; refine (ris_any k fi ca inn kind t _).mono ?_; rintro e w' ⟨rfl, hb⟩)
      | (go_at_call 30; refine (textF_any k fi ca inn t _ HF.out HC.out HT.out (HG.out.below (five_bel B1.out W2.out (by assumption)))).mono ?_; rintro e w' ⟨rfl, hb⟩)
      | (go_at_call 31; refine (rtextF_any k fi ca inn t _ HK.out HI.out HF.out HC.out HT.out (HG.out.below (five_bel B1.out W2.out (by assumption)))).mono ?_; rintro e w' ⟨rfl, hb⟩)
      | (go_at_call 32; refine (new_ex kind _).mono ?_; rintro e w' ⟨rfl, hb⟩)
      | (go_at_call 33; refine (status_any k fi ca inn t _).mono ?_; rintro e w' ⟨rfl, hb⟩)
      | (go_at_call 34; refine (rstatus_any k fi ca inn t (wf_of HK.out) _).mono ?_; rintro e w' ⟨rfl, hb⟩)
      | (go_at_call 35; refine (faultAnswer_any k fi ca inn t _).mono ?_; rintro e w' ⟨b1, d1, rfl, hva, hb⟩)
      | (go_at_call 36; refine (told_any k fi ca inn t _ HK.out).mono ?_; rintro e w' ⟨b2, d2, rfl, hvb, hb⟩; have hva' := MsAt.below hva (Nat.le_refl _) hb)
      | (go_at_call 16; refine (rsame_any (tellM k) (tellM k) _ _ _ hva' hvb).mono ?_; rintro e w' ⟨rfl, hb⟩))
  go_wp2
  go_ret
  exact ⟨rfl, five_bel B1.out W2.out (by assumption)⟩
end Go.Proofs.YtlkfkhpokkjkpaaDoor
