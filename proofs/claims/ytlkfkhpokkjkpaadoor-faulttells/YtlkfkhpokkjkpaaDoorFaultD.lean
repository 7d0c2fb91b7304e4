/- Walks of fault's Text and of the document's own. -/
import Derived.Test.YtlkfkhpokkjkpaaDoorFaultC
import Derived.Test.YtlkfkhpokkjkpaaDoorMsgK
import Derived.Lib.ItoaLen
namespace Go.Proofs.YtlkfkhpokkjkpaaDoor
open Go.RowKit

def wfI (n : Int) : Prop := -9223372036854775808 ≤ n ∧ n ≤ 9223372036854775807
def atF (fi ca : Int) : ByteArray := if 0 ≤ fi then ⟨#[32, 97, 116, 32]⟩ ++ B (Lib.itoa fi) ++ ⟨#[46]⟩ ++ B (Lib.itoa ca) else ⟨#[]⟩
def inF (inn : Int) : ByteArray := if inn = 0 then ⟨#[]⟩ else ⟨#[32, 40]⟩ ++ kindS inn ++ ⟨#[41]⟩
def txF (t : ByteArray) : ByteArray := if t = ⟨#[]⟩ then ⟨#[]⟩ else ⟨#[58, 32]⟩ ++ t
def textF (k fi ca inn : Int) (t : ByteArray) : ByteArray := kindS k ++ atF fi ca ++ inF inn ++ txF t

theorem itoa_bel (n : Int) (h : wfI n) (w : World) (hg : GlobT w) : Calls Tryd.prog 38 #[.int .i64 n] w fun e w' => e = .returned (.string (B (Lib.itoa n))) ∧ Below w.heap.size w w' := by
  refine (Tryd.strconv_Itoa n h.1 h.2 w hg).mono ?_
  rintro e w2 ⟨rfl, kk, os, rfl⟩
  exact ⟨rfl, below_growN w kk os⟩
theorem itoa_sz (n : Int) (h : wfI n) : (B (Lib.itoa n)).size ≤ 21 := by rw [B_size]; exact Lib.itoa_length_le n h.1 h.2
theorem ret_str {a b : ByteArray} (h : a = b) : Ending.returned (.string a) = .returned (.string b) := by rw [h]
theorem app_nil (s : ByteArray) : s ++ ⟨#[]⟩ = s := by
  apply WideShapes.bytes_inj
  simp

theorem ne_list {t : ByteArray} (h : t ≠ ⟨#[]⟩) : t.toList.isEmpty = false := by
  cases e : t.toList.isEmpty with
  | false => rfl
  | true =>
    rw [List.isEmpty_iff, toList_eq] at e
    exact absurd (WideShapes.bytes_inj e) h
theorem ne_size {t : ByteArray} (h : t ≠ ⟨#[]⟩) : 0 < t.size := by
  rcases Nat.eq_zero_or_pos t.size with e | e
  · exact absurd (WideShapes.bytes_inj (List.eq_nil_of_length_eq_zero (by simpa using e))) h
  · exact e

set_option maxRecDepth 100000 in
set_option maxHeartbeats 1000000 in
theorem text_at (k fi ca inn : Int) (t : ByteArray) (w : World) (hfi : wfI fi) (hca : wfI ca) (ht : t.size ≤ 281474976710656) (hg : GlobT w) (h0 : 0 ≤ fi) :
    Calls Tryd.prog 30 #[fltV k fi ca inn t] w fun e w' => e = .returned (.string (textF k fi ca inn t)) ∧ Below w.heap.size w w' := by
  unfold fltV
  have HF : Hid (wfI fi) := hfi
  have HC : Hid (wfI ca) := hca
  have s1 := itoa_sz fi hfi
  have s2 := itoa_sz ca hca
  have s3 := kindS_size k
  have s4 := kindS_size inn
  clear hfi hca
  have hgl : ∀ d os, GlobT (Sort.grow (redrawn (w.alloc (.cells #[.int .i64 k, .int .i64 fi, .int .i64 ca, .string t, .int .i64 inn] 44)) d) os) := fun d os => hg.below (((Below.refl _ _).alloc (Nat.le_refl _) _).trans ((below_regrown _ d os).mono (by simp)))
  have g1 : ∀ d os, (Sort.grow (redrawn (w.alloc (.cells #[.int .i64 k, .int .i64 fi, .int .i64 ca, .string t, .int .i64 inn] 44)) d) os).cell? ⟨w.heap.size, 1, none⟩ = some (.int .i64 fi) := fun d os => cell_regrown (by simp) d os
  have g2 : ∀ d os, (Sort.grow (redrawn (w.alloc (.cells #[.int .i64 k, .int .i64 fi, .int .i64 ca, .string t, .int .i64 inn] 44)) d) os).cell? ⟨w.heap.size, 2, none⟩ = some (.int .i64 ca) := fun d os => cell_regrown (by simp) d os
  have g3 : ∀ d os, (Sort.grow (redrawn (w.alloc (.cells #[.int .i64 k, .int .i64 fi, .int .i64 ca, .string t, .int .i64 inn] 44)) d) os).cell? ⟨w.heap.size, 3, none⟩ = some (.string t) := fun d os => cell_regrown (by simp) d os
  have g4 : ∀ d os, (Sort.grow (redrawn (w.alloc (.cells #[.int .i64 k, .int .i64 fi, .int .i64 ca, .string t, .int .i64 inn] 44)) d) os).cell? ⟨w.heap.size, 4, none⟩ = some (.int .i64 inn) := fun d os => cell_regrown (by simp) d os
  have HB : ∀ d os, Hid (Below w.heap.size w (Sort.grow (redrawn (w.alloc (.cells #[.int .i64 k, .int .i64 fi, .int .i64 ca, .string t, .int .i64 inn] 44)) d) os)) := fun d os => ((Below.refl _ _).alloc (Nat.le_refl _) _).trans ((below_regrown _ d os).mono (by simp))
  go_enter Tryd.func30, Tryd.ntmps30
  go_wp2_with (go_at_call 54; refine (kindName_any _ _).mono ?_; rintro e w' ⟨rfl, rfl⟩)
  refine wp_region_quiet_below Tryd.mixed (by kernel_rfl) ?_
  repeat (go_big_quiet_step (first | (go_at_call 38; exact Calls.regrown_of (itoa_bel fi HF.out _ (hgl _ _))) | (go_at_call 38; exact Calls.regrown_of (itoa_bel ca HC.out _ (hgl _ _)))))
  refine wpQuiet_nil ?_
  intro _ hw'
  obtain ⟨⟨dq, osq⟩, hw''⟩ := hw'
  subst hw''
  by_cases hi : inn = 0
  · subst hi
    by_cases ht0 : t = ⟨#[]⟩
    · subst ht0
      go_wp2
      go_ret
      exact ⟨ret_str (by simp only [textF, atF, inF, txF, if_pos h0, if_pos, app_nil]), (HB _ _).out⟩
    · have hb := ne_list ht0
      go_wp2
      go_ret
      exact ⟨ret_str (by simp only [textF, atF, inF, txF, if_pos h0, if_pos, if_neg ht0, app_nil]), (HB _ _).out⟩
  · have hb' : (inn != 0) = true := by simpa using hi
    by_cases ht0 : t = ⟨#[]⟩
    · subst ht0
      go_wp2_with (go_at_call 54; refine (kindName_any _ _).mono ?_; rintro e w' ⟨rfl, rfl⟩)
      go_ret
      exact ⟨ret_str (by simp only [textF, atF, inF, txF, if_pos h0, if_pos, if_neg hi, app_nil]), (HB _ _).out⟩
    · have hb := ne_list ht0
      go_wp2_with (go_at_call 54; refine (kindName_any _ _).mono ?_; rintro e w' ⟨rfl, rfl⟩)
      go_ret
      exact ⟨ret_str (by simp only [textF, atF, inF, txF, if_pos h0, if_neg hi, if_neg ht0]), (HB _ _).out⟩

set_option maxRecDepth 100000 in
set_option maxHeartbeats 1000000 in
theorem text_no (k fi ca inn : Int) (t : ByteArray) (w : World) (ht : t.size ≤ 281474976710656) (h0 : ¬ 0 ≤ fi) :
    Calls Tryd.prog 30 #[fltV k fi ca inn t] w fun e w' => e = .returned (.string (textF k fi ca inn t)) ∧ Below w.heap.size w w' := by
  unfold fltV
  have s3 := kindS_size k
  have s4 := kindS_size inn
  have HB : Hid (Below w.heap.size w (w.alloc (.cells #[.int .i64 k, .int .i64 fi, .int .i64 ca, .string t, .int .i64 inn] 44))) := (Below.refl _ _).alloc (Nat.le_refl _) _
  by_cases hi : inn = 0
  · subst hi
    by_cases ht0 : t = ⟨#[]⟩
    · subst ht0
      go_enter Tryd.func30, Tryd.ntmps30
      go_wp2_with (go_at_call 54; refine (kindName_any _ _).mono ?_; rintro e w' ⟨rfl, rfl⟩)
      go_ret
      exact ⟨ret_str (by simp only [textF, atF, inF, txF, if_neg (show ¬ 0 ≤ fi by omega), if_pos, app_nil]), HB.out⟩
    · have hb := ne_list ht0
      go_enter Tryd.func30, Tryd.ntmps30
      go_wp2_with (go_at_call 54; refine (kindName_any _ _).mono ?_; rintro e w' ⟨rfl, rfl⟩)
      go_ret
      exact ⟨ret_str (by simp only [textF, atF, inF, txF, if_neg (show ¬ 0 ≤ fi by omega), if_pos, if_neg ht0, app_nil]), HB.out⟩
  · have hb' : (inn != 0) = true := by simpa using hi
    by_cases ht0 : t = ⟨#[]⟩
    · subst ht0
      go_enter Tryd.func30, Tryd.ntmps30
      go_wp2_with (go_at_call 54; refine (kindName_any _ _).mono ?_; rintro e w' ⟨rfl, rfl⟩)
      go_ret
      exact ⟨ret_str (by simp only [textF, atF, inF, txF, if_neg (show ¬ 0 ≤ fi by omega), if_pos, if_neg hi, app_nil]), HB.out⟩
    · have hb := ne_list ht0
      go_enter Tryd.func30, Tryd.ntmps30
      go_wp2_with (go_at_call 54; refine (kindName_any _ _).mono ?_; rintro e w' ⟨rfl, rfl⟩)
      go_ret
      exact ⟨ret_str (by simp only [textF, atF, inF, txF, if_neg (show ¬ 0 ≤ fi by omega), if_neg hi, if_neg ht0, app_nil]), HB.out⟩

theorem textF_any (k fi ca inn : Int) (t : ByteArray) (w : World) (hfi : wfI fi) (hca : wfI ca) (ht : t.size ≤ 281474976710656) (hg : GlobT w) :
    Calls Tryd.prog 30 #[fltV k fi ca inn t] w fun e w' => e = .returned (.string (textF k fi ca inn t)) ∧ Below w.heap.size w w' := by
  by_cases h0 : 0 ≤ fi
  · exact text_at k fi ca inn t w hfi hca ht hg h0
  · exact text_no k fi ca inn t w ht h0
end Go.Proofs.YtlkfkhpokkjkpaaDoor
