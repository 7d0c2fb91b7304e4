/- Walks of the document's own Text of a fault. -/
import Derived.Test.YtlkfkhpokkjkpaaDoorFaultD
namespace Go.Proofs.YtlkfkhpokkjkpaaDoor
open Go.RowKit

theorem wf_of {n : Int} (h : wfI n) : (Lit.int .i64 n).wf = true := by
  have h1 := h.1
  have h2 := h.2
  show (decide ((-9223372036854775808 : Int) ≤ n) && decide (n ≤ (9223372036854775807 : Int))) = true
  simp
  omega
theorem nil_app (s : ByteArray) : ⟨#[]⟩ ++ s = s := by
  apply WideShapes.bytes_inj
  simp
def fltO (k fi ca inn : Int) (t : ByteArray) : Obj := .cells #[.int .i64 k, .int .i64 fi, .int .i64 ca, .string t, .int .i64 inn] 44

/-- The fault's box lies as it was laid. -/
structure FBoxAt (W : World) (b : Nat) (k fi ca inn : Int) (t : ByteArray) : Prop where
  c0 : W.cell? ⟨b, 0, none⟩ = some (.int .i64 k)
  c1 : W.cell? ⟨b, 1, none⟩ = some (.int .i64 fi)
  c2 : W.cell? ⟨b, 2, none⟩ = some (.int .i64 ca)
  c3 : W.cell? ⟨b, 3, none⟩ = some (.string t)
  c4 : W.cell? ⟨b, 4, none⟩ = some (.int .i64 inn)
  lt : b < W.heap.size
theorem FBoxAt.made (w : World) (k fi ca inn : Int) (t : ByteArray) : FBoxAt (w.alloc (.cells #[.int .i64 k, .int .i64 fi, .int .i64 ca, .string t, .int .i64 inn] 44)) w.heap.size k fi ca inn t := ⟨by simp, by simp, by simp, by simp, by simp, by simp⟩
theorem FBoxAt.below {W W' : World} {b : Nat} {k fi ca inn : Int} {t : ByteArray} (h : FBoxAt W b k fi ca inn t) (hb : Below W.heap.size W W') : FBoxAt W' b k fi ca inn t := by
  have e := fun j => hb.cell (p := ⟨b, j, none⟩) h.lt
  exact ⟨by rw [e]; exact h.c0, by rw [e]; exact h.c1, by rw [e]; exact h.c2, by rw [e]; exact h.c3, by rw [e]; exact h.c4, Nat.lt_of_lt_of_le h.lt hb.size⟩

set_option maxRecDepth 100000 in
set_option maxHeartbeats 1000000 in
theorem rtext_at (k fi ca inn : Int) (t : ByteArray) (w : World) (hk : wfI k) (hin : wfI inn) (hfi : wfI fi) (hca : wfI ca) (ht : t.size ≤ 281474976710656) (hg : GlobT w) (h0 : 0 ≤ fi) :
    Calls Tryd.prog 31 #[fltV k fi ca inn t] w fun e w' => e = .returned (.string (textF k fi ca inn t)) ∧ Below w.heap.size w w' := by
  unfold fltV
  have HK : Hid (wfI k) := hk
  have HI : Hid (wfI inn) := hin
  have HF : Hid (wfI fi) := hfi
  have HC : Hid (wfI ca) := hca
  have s1 := itoa_sz fi hfi
  have s2 := itoa_sz ca hca
  have s3 := kindS_size k
  have s4 := kindS_size inn
  have h0' : -1 < fi := by omega
  clear hk hin hfi hca
  have ba : Below w.heap.size w (w.alloc (.cells #[.int .i64 k, .int .i64 fi, .int .i64 ca, .string t, .int .i64 inn] 44)) := (Below.refl _ _).alloc (Nat.le_refl _) _
  have bx := FBoxAt.made w k fi ca inn t
  go_enter Tryd.func31, Tryd.ntmps31
  go_wp2_with fail
  refine (rkind_any k (wf_of HK.out) _).mono ?_
  rintro e w1 ⟨rfl, b1⟩
  have BX := bx.below b1
  have B1 : Below w.heap.size w w1 := ba.trans (b1.mono ba.size)
  have GL : GlobT w1 := hg.below B1
  clear bx ba b1 hg
  obtain ⟨c0, c1, c2, c3, c4, lt⟩ := BX
  have hgl : ∀ d os, GlobT (Sort.grow (redrawn w1 d) os) := fun d os => GL.below (below_regrown _ d os)
  have g1 : ∀ d os, (Sort.grow (redrawn w1 d) os).cell? ⟨w.heap.size, 1, none⟩ = some (.int .i64 fi) := fun d os => cell_regrown c1 d os
  have g2 : ∀ d os, (Sort.grow (redrawn w1 d) os).cell? ⟨w.heap.size, 2, none⟩ = some (.int .i64 ca) := fun d os => cell_regrown c2 d os
  have g3 : ∀ d os, (Sort.grow (redrawn w1 d) os).cell? ⟨w.heap.size, 3, none⟩ = some (.string t) := fun d os => cell_regrown c3 d os
  have g4 : ∀ d os, (Sort.grow (redrawn w1 d) os).cell? ⟨w.heap.size, 4, none⟩ = some (.int .i64 inn) := fun d os => cell_regrown c4 d os
  have HB : ∀ d os, Hid (Below w.heap.size w (Sort.grow (redrawn w1 d) os)) := fun d os => B1.trans ((below_regrown _ d os).mono B1.size)
  clear c3 c4
  go_wp2_with fail
  refine wp_region_quiet_below Tryd.mixed (by kernel_rfl) ?_
  repeat (go_big_quiet_step (first | (go_at_call 38; exact Calls.regrown_of (itoa_bel fi HF.out _ (hgl _ _))) | (go_at_call 38; exact Calls.regrown_of (itoa_bel ca HC.out _ (hgl _ _)))))
  refine wpQuiet_nil ?_
  intro _ hw'
  obtain ⟨⟨dq, osq⟩, hw''⟩ := hw'
  subst hw''
  by_cases hi : inn = 0
  · subst hi
    by_cases ht0 : t = ⟨#[]⟩
    · subst ht0
      go_wp2
      go_ret
      exact ⟨ret_str (by simp only [textF, atF, inF, txF, if_pos h0, if_pos, app_nil, ByteArray.append_assoc]), (HB _ _).out⟩
    · have hb := ne_size ht0
      go_wp2
      go_ret
      exact ⟨ret_str (by simp only [textF, atF, inF, txF, if_pos h0, if_pos, if_neg ht0, app_nil, ByteArray.append_assoc]), (HB _ _).out⟩
  · have hb' : (inn != 0) = true := by simpa using hi
    have hlt : w.heap.size < (Sort.grow (redrawn w1 dq) osq).heap.size := Nat.lt_of_lt_of_le lt (below_regrown w1 dq osq).size
    have h3 := g3 dq osq
    go_wp2_with fail
    refine (rkind_any inn (wf_of HI.out) _).mono ?_
    rintro e w2 ⟨rfl, b2⟩
    have h3' : w2.cell? ⟨w.heap.size, 3, none⟩ = some (.string t) := by rw [b2.cell (p := ⟨w.heap.size, 3, none⟩) hlt]; exact h3
    have HB2 : Hid (Below w.heap.size w w2) := (HB dq osq).out.trans (b2.mono (HB dq osq).out.size)
    clear b2
    by_cases ht0 : t = ⟨#[]⟩
    · subst ht0
      go_wp2
      go_ret
      exact ⟨ret_str (by simp only [textF, atF, inF, txF, if_pos h0, if_pos, if_neg hi, app_nil, ByteArray.append_assoc]), HB2.out⟩
    · have hb := ne_size ht0
      go_wp2
      go_ret
      exact ⟨ret_str (by simp only [textF, atF, inF, txF, if_pos h0, if_neg hi, if_neg ht0, ByteArray.append_assoc]), HB2.out⟩

set_option maxRecDepth 100000 in
set_option maxHeartbeats 1000000 in
theorem rtext_no (k fi ca inn : Int) (t : ByteArray) (w : World) (hk : wfI k) (hin : wfI inn) (ht : t.size ≤ 281474976710656) (h0 : fi < 0) :
    Calls Tryd.prog 31 #[fltV k fi ca inn t] w fun e w' => e = .returned (.string (textF k fi ca inn t)) ∧ Below w.heap.size w w' := by
  unfold fltV
  have HK : Hid (wfI k) := hk
  have HI : Hid (wfI inn) := hin
  have s3 := kindS_size k
  have s4 := kindS_size inn
  have h0' : ¬ -1 < fi := by omega
  clear hk hin
  have ba : Below w.heap.size w (w.alloc (.cells #[.int .i64 k, .int .i64 fi, .int .i64 ca, .string t, .int .i64 inn] 44)) := (Below.refl _ _).alloc (Nat.le_refl _) _
  have bx := FBoxAt.made w k fi ca inn t
  go_enter Tryd.func31, Tryd.ntmps31
  go_wp2_with fail
  refine (rkind_any k (wf_of HK.out) _).mono ?_
  rintro e w1 ⟨rfl, b1⟩
  have BX := bx.below b1
  have B1 : Below w.heap.size w w1 := ba.trans (b1.mono ba.size)
  have HB : Hid (Below w.heap.size w w1) := B1
  clear bx ba b1 B1
  obtain ⟨c0, c1, c2, c3, c4, lt⟩ := BX
  by_cases hi : inn = 0
  · subst hi
    by_cases ht0 : t = ⟨#[]⟩
    · subst ht0
      go_wp2
      go_ret
      exact ⟨ret_str (by simp only [textF, atF, inF, txF, if_neg (show ¬ 0 ≤ fi by omega), if_pos, app_nil, ByteArray.append_assoc]), HB.out⟩
    · have hb := ne_size ht0
      go_wp2
      go_ret
      exact ⟨ret_str (by simp only [textF, atF, inF, txF, if_neg (show ¬ 0 ≤ fi by omega), if_pos, if_neg ht0, app_nil, ByteArray.append_assoc]), HB.out⟩
  · have hb' : (inn != 0) = true := by simpa using hi
    go_wp2_with fail
    refine (rkind_any inn (wf_of HI.out) _).mono ?_
    rintro e w2 ⟨rfl, b2⟩
    have h3' : w2.cell? ⟨w.heap.size, 3, none⟩ = some (.string t) := by rw [b2.cell (p := ⟨w.heap.size, 3, none⟩) lt]; exact c3
    have HB2 : Hid (Below w.heap.size w w2) := HB.out.trans (b2.mono HB.out.size)
    clear b2
    by_cases ht0 : t = ⟨#[]⟩
    · subst ht0
      go_wp2
      go_ret
      exact ⟨ret_str (by simp only [textF, atF, inF, txF, if_neg (show ¬ 0 ≤ fi by omega), if_pos, if_neg hi, app_nil, ByteArray.append_assoc]), HB2.out⟩
    · have hb := ne_size ht0
      go_wp2
      go_ret
      exact ⟨ret_str (by simp only [textF, atF, inF, txF, if_neg (show ¬ 0 ≤ fi by omega), if_neg hi, if_neg ht0, app_nil, ByteArray.append_assoc]), HB2.out⟩

theorem rtextF_any (k fi ca inn : Int) (t : ByteArray) (w : World) (hk : wfI k) (hin : wfI inn) (hfi : wfI fi) (hca : wfI ca) (ht : t.size ≤ 281474976710656) (hg : GlobT w) :
    Calls Tryd.prog 31 #[fltV k fi ca inn t] w fun e w' => e = .returned (.string (textF k fi ca inn t)) ∧ Below w.heap.size w w' := by
  by_cases h0 : 0 ≤ fi
  · exact rtext_at k fi ca inn t w hk hin hfi hca ht hg h0
  · exact rtext_no k fi ca inn t w hk hin ht (by omega)
end Go.Proofs.YtlkfkhpokkjkpaaDoor
