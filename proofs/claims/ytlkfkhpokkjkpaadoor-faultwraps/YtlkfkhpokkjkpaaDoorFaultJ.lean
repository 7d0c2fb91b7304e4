/- The walk of the law FaultWraps. -/
import Derived.Test.YtlkfkhpokkjkpaaDoorFaultI
namespace Go.Proofs.YtlkfkhpokkjkpaaDoor
open Go.RowKit

theorem statusI_range (k : Int) : 400 ≤ statusI k ∧ statusI k ≤ 504 := by
  unfold statusI
  split
  · omega
  · split
    · omega
    · split
      · omega
      · split <;> omega
theorem wrong_tell (k : Int) : wrongE (tellM k) = 0 := by
  have h := statusI_range k
  have hs := kindS_size k
  have e0 : ¬ statusI k = 0 := by omega
  have e1 : ¬ statusI k < 100 := by omega
  have e2 : ¬ 599 < statusI k := by omega
  have e3 : ¬ 40 < (kindS k).size := by omega
  have e4 : (B []).toList = [] := by rw [toList_eq, B_data]
  have e5 : okHs [] = true := by kernel_rfl
  simp [wrongE, tellM, e0, e1, e2, e3, e4, e5]
theorem isB_kind (k inn : Int) : isB k inn k = true := by simp [isB]
theorem isB_inner (k inn : Int) (h : inn ≠ 0) : isB k inn inn = true := by simp [isB, h]
theorem isB_other (k inn a : Int) (h1 : a ≠ k) (h2 : a ≠ inn) : isB k inn a = false := by
  simp [isB, Ne.symm h1, Ne.symm h2]

set_option maxRecDepth 100000 in
set_option maxHeartbeats 1000000 in
theorem fwraps_out (k fi ca inn kind : Int) (t : ByteArray) (w : World) (hg : GlobT w) (ho : k < 1 ∨ 7 < k) :
    Calls Tryd.prog 7 #[fltV k fi ca inn t, .int .i64 kind] w fun e w' => e = .returned (.bool true) ∧ Below w.heap.size w w' := by
  unfold fltV
  have HG : Hid (GlobT w) := hg
  clear hg
  have bx0 := FBoxAt.made w k fi ca inn t
  have ba : Below w.heap.size w (w.alloc (.cells #[.int .i64 k, .int .i64 fi, .int .i64 ca, .string t, .int .i64 inn] 44)) := (Below.refl _ _).alloc (Nat.le_refl _) _
  go_enter Tryd.func7, Tryd.ntmps7
  go_wp2_with fail
  refine (falive_any _ (HG.out.below ba)).mono ?_
  rintro e w1 ⟨rfl, b1⟩
  have A1 : FBoxAt w1 _ _ _ _ _ _ := bx0.below b1
  have B1 : Hid (Below w.heap.size w w1) := ba.trans (b1.mono ba.size)
  clear bx0 ba b1
  obtain ⟨c0, c1, c2, c3, c4, lt⟩ := A1
  rcases ho with h | h
  · have h' : decide (k < 1) = true := by simp [h]
    go_wp2
    go_ret
    exact ⟨rfl, B1.out⟩
  · have h' : decide (k < 1) = false := by simp; omega
    have h2 : decide (7 < k) = true := by simp [h]
    go_wp2
    go_ret
    exact ⟨rfl, B1.out⟩

/-- The two boxes of the law, as they lie. -/
structure WrapsAt (w W : World) (h m : Nat) (k fi ca inn : Int) (t : ByteArray) (b d : Nat) : Prop where
  fb : FBoxAt W h k fi ca inn t
  m0 : W.cell? ⟨m, 0, none⟩ = some (.int .i64 (statusI k))
  m1 : W.cell? ⟨m, 1, none⟩ = some (.string ⟨#[]⟩)
  m2 : W.cell? ⟨m, 2, none⟩ = some (.slice none 0 0)
  m3 : W.cell? ⟨m, 3, none⟩ = some (.slice (some ⟨b, 0, none⟩) (kindS k).size d)
  ml : m < W.heap.size
  ms : MsAt W (tellV k b d) (tellM k)
  bl : Below w.heap.size w W
theorem WrapsAt.keep {w W W' : World} {h m : Nat} {k fi ca inn : Int} {t : ByteArray} {b d : Nat} (x : WrapsAt w W h m k fi ca inn t b d) (hb : Below W.heap.size W W') : WrapsAt w W' h m k fi ca inn t b d := by
  have e := fun j => hb.cell (p := ⟨m, j, none⟩) x.ml
  exact ⟨x.fb.below hb, by rw [e]; exact x.m0, by rw [e]; exact x.m1, by rw [e]; exact x.m2, by rw [e]; exact x.m3, Nat.lt_of_lt_of_le x.ml hb.size, x.ms.below (Nat.le_refl _) hb, x.bl.trans (hb.mono x.bl.size)⟩
theorem WrapsAt.made {w W : World} {h : Nat} {k fi ca inn : Int} {t : ByteArray} {b d : Nat} (fb : FBoxAt W h k fi ca inn t) (hm : MsAt W (tellV k b d) (tellM k)) (hb : Below w.heap.size w W) :
    WrapsAt w (W.alloc (.cells #[.int .i64 (statusI k), .string ⟨#[]⟩, .slice none 0 0, .slice (some ⟨b, 0, none⟩) (kindS k).size d] 25)) h W.heap.size k fi ca inn t b d :=
  ⟨fb.below ((Below.refl _ _).alloc (Nat.le_refl _) _), by simp, by simp, by simp, by simp, by simp, hm.below (Nat.le_refl _) ((Below.refl _ _).alloc (Nat.le_refl _) _), hb.alloc hb.size _⟩

set_option maxRecDepth 100000 in
set_option maxHeartbeats 1000000 in
theorem fwraps_in (k fi ca inn kind : Int) (t : ByteArray) (w : World) (hg : GlobT w) (h1 : ¬ k < 1) (h7 : ¬ 7 < k) :
    Calls Tryd.prog 7 #[fltV k fi ca inn t, .int .i64 kind] w fun e w' => e = .returned (.bool true) ∧ Below w.heap.size w w' := by
  unfold fltV
  have HG : Hid (GlobT w) := hg
  clear hg
  have bx0 := FBoxAt.made w k fi ca inn t
  have ba : Below w.heap.size w (w.alloc (.cells #[.int .i64 k, .int .i64 fi, .int .i64 ca, .string t, .int .i64 inn] 44)) := (Below.refl _ _).alloc (Nat.le_refl _) _
  go_enter Tryd.func7, Tryd.ntmps7
  go_wp2_with fail
  refine (falive_any _ (HG.out.below ba)).mono ?_
  rintro e w1 ⟨rfl, b1⟩
  have A1 : FBoxAt w1 _ _ _ _ _ _ := bx0.below b1
  have B1 : Hid (Below w.heap.size w w1) := ba.trans (b1.mono ba.size)
  clear bx0 ba b1
  have HA1 : Hid (FBoxAt w1 _ _ _ _ _ _) := A1
  obtain ⟨c0, c1, c2, c3, c4, lt⟩ := A1
  go_wp2_with fail
  refine (faultAnswer_any k fi ca inn t _).mono ?_
  rintro e w2 ⟨b, d, rfl, hm, b2⟩
  have A2 : FBoxAt w2 _ _ _ _ _ _ := HA1.out.below b2
  have B2 : Hid (Below w.heap.size w w2) := B1.out.trans (b2.mono B1.out.size)
  have HM : Hid (MsAt w2 (tellV k b d) (tellM k)) := hm
  clear c0 c1 c2 c3 c4 lt HA1 b2 B1 hm
  have HA2 : Hid (FBoxAt w2 _ _ _ _ _ _) := A2
  obtain ⟨c0, c1, c2, c3, c4, lt⟩ := A2
  have X0 := WrapsAt.made HA2.out HM.out B2.out
  clear HA2 HM B2
  have hst : 400 ≤ statusI k := (statusI_range k).1
  unfold tellV
  go_wp2_with fail
  refine (faultIs_any k fi ca inn k t _).mono ?_
  rintro e w3 ⟨rfl, b3⟩
  rw [isB_kind]
  have X3 := X0.keep b3
  clear c0 c1 c2 c3 c4 lt b3 X0
  have H3 : Hid (WrapsAt w w3 w.heap.size w2.heap.size k fi ca inn t b d) := X3
  obtain ⟨⟨c0, c1, c2, c3, c4, lt⟩, m0, m1, m2, m3, ml, ms, bl⟩ := X3
  clear ms bl
  by_cases hi : inn = 0
  · subst hi
    go_wp2_with fail
    refine (rwrong_any (tellM k) _ _ H3.out.ms).mono ?_
    rintro e w5 ⟨rfl, b5⟩
    rw [wrong_tell]
    have X5 := H3.out.keep b5
    clear c0 c1 c2 c3 c4 lt m0 m1 m2 m3 ml
    clear H3 b5
    have H5 : Hid (WrapsAt w w5 w.heap.size w2.heap.size k fi ca 0 t b d) := X5
    obtain ⟨⟨c0, c1, c2, c3, c4, lt⟩, m0, m1, m2, m3, ml, ms, bl⟩ := X5
    clear ms bl
    by_cases ek : kind = k
    · subst ek
      go_wp2
      go_ret
      exact ⟨rfl, H5.out.bl⟩
    · have ek' : (kind == k) = false := by simp [ek]
      by_cases ei : kind = 0
      · subst ei
        go_wp2
        go_ret
        exact ⟨rfl, H5.out.bl⟩
      · have ei' : (kind == 0) = false := by simp [ei]
        go_wp2_with fail
        refine (faultIs_any k fi ca 0 kind t _).mono ?_
        rintro e w6 ⟨rfl, b6⟩
        rw [isB_other k 0 kind ek ei]
        have B6 : Hid (Below w.heap.size w w6) := H5.out.bl.trans (b6.mono H5.out.bl.size)
        clear H5 b6
        go_wp2
        go_ret
        exact ⟨rfl, B6.out⟩
  · have hi' : (inn != 0) = true := by simpa using hi
    go_wp2_with fail
    refine (faultIs_any k fi ca inn inn t _).mono ?_
    rintro e w4 ⟨rfl, b4⟩
    rw [isB_inner k inn hi]
    have X4 := H3.out.keep b4
    clear c0 c1 c2 c3 c4 lt m0 m1 m2 m3 ml H3 b4
    have H4 : Hid (WrapsAt w w4 w.heap.size w2.heap.size k fi ca inn t b d) := X4
    obtain ⟨⟨c0, c1, c2, c3, c4, lt⟩, m0, m1, m2, m3, ml, ms, bl⟩ := X4
    clear ms bl
    go_wp2_with fail
    refine (rwrong_any (tellM k) _ _ H4.out.ms).mono ?_
    rintro e w5 ⟨rfl, b5⟩
    rw [wrong_tell]
    have X5 := H4.out.keep b5
    clear c0 c1 c2 c3 c4 lt m0 m1 m2 m3 ml
    clear H4 b5
    have H5 : Hid (WrapsAt w w5 w.heap.size w2.heap.size k fi ca inn t b d) := X5
    obtain ⟨⟨c0, c1, c2, c3, c4, lt⟩, m0, m1, m2, m3, ml, ms, bl⟩ := X5
    clear ms bl
    by_cases ek : kind = k
    · subst ek
      go_wp2
      go_ret
      exact ⟨rfl, H5.out.bl⟩
    · have ek' : (kind == k) = false := by simp [ek]
      by_cases ei : kind = inn
      · subst ei
        go_wp2
        go_ret
        exact ⟨rfl, H5.out.bl⟩
      · have ei' : (kind == inn) = false := by simp [ei]
        go_wp2_with fail
        refine (faultIs_any k fi ca inn kind t _).mono ?_
        rintro e w6 ⟨rfl, b6⟩
        rw [isB_other k inn kind ek ei]
        have B6 : Hid (Below w.heap.size w w6) := H5.out.bl.trans (b6.mono H5.out.bl.size)
        clear H5 b6
        go_wp2
        go_ret
        exact ⟨rfl, B6.out⟩

theorem fwraps_any (k fi ca inn kind : Int) (t : ByteArray) (w : World) (hg : GlobT w) :
    Calls Tryd.prog 7 #[fltV k fi ca inn t, .int .i64 kind] w fun e w' => e = .returned (.bool true) ∧ Below w.heap.size w w' := by
  by_cases h1 : k < 1
  · exact fwraps_out k fi ca inn kind t w hg (.inl h1)
  · by_cases h7 : 7 < k
    · exact fwraps_out k fi ca inn kind t w hg (.inr h7)
    · exact fwraps_in k fi ca inn kind t w hg h1 h7
end Go.Proofs.YtlkfkhpokkjkpaaDoor
