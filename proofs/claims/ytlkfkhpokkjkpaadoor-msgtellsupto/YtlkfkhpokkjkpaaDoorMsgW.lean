/- Walks of the document's own Parse: what it says no to in the first line. -/
import Derived.Test.YtlkfkhpokkjkpaaDoorMsgV
namespace Go.Proofs.YtlkfkhpokkjkpaaDoor
open Go.RowKit

theorem hasPrefix_take (l p : List UInt8) (hp : p.length = 4) : Lib.hasPrefix l p = (l.take 4 == p) := by
  unfold Lib.hasPrefix
  rw [Bool.eq_iff_iff, List.isPrefixOf_iff_prefix, List.prefix_iff_eq_take, hp]
  rw [beq_iff_eq]; exact eq_comm
theorem extract4 (l : List UInt8) : ((B l).extract 0 4).toList = l.take 4 := by rw [Lib.extract_toList, B_data]; simp

theorem atoi_bel {w w' : World} (h : w' = w ∨ ∃ t, w' = Lib.bytesWorld w 5 t) : Below w.heap.size w w' := by
  rcases h with rfl | ⟨t, rfl⟩
  · exact Below.refl _ _
  · exact below_bytes _ _

theorem itoa_below (n : Int) (h1 : -9223372036854775808 ≤ n) (h2 : n ≤ 9223372036854775807) (w : World) (hg : GlobT w) : Calls Tryd.prog 38 #[.int .i64 n] w fun e w' => e = .returned (.string (B (Lib.itoa n))) ∧ Below w.heap.size w w' := by
  refine (Tryd.strconv_Itoa n h1 h2 w hg).mono ?_
  rintro e w2 ⟨rfl, kk, os, rfl⟩
  exact ⟨rfl, below_growN w kk os⟩

set_option maxRecDepth 100000 in
set_option maxHeartbeats 1000000 in
theorem rparse_no1 (s : ByteArray) (w : World) (hs : s.size ≤ 1048576) (l0 r0 : List UInt8) (hL : cutL 10 s.data.toList = (l0, r0, false)) :
    Calls Tryd.prog 20 #[.string s] w fun e w' => e = .returned (.tuple #[msgV 0 [], .int .i64 2]) ∧ Below w.heap.size w w' := by
  have HL : Hid (cutL 10 s.data.toList = _) := hL
  clear hL
  have HS : Hid (s.size ≤ 281474976710656) := by show _ ≤ _; omega
  go_enter Tryd.func20, Tryd.ntmps20
  go_wp2_with (go_at_call 51; refine (upTo_any s 10 10 rfl _ HS.out).mono ?_; rintro e w1 ⟨rfl, n, rfl⟩; rw [HL.out])
  refine (no_any 2 _).mono ?_
  rintro e w3 ⟨rfl, bl⟩
  simp only [msgV]
  have hbx := fun j => bl.cell (p := ⟨w.heap.size, j, none⟩) (by simp)
  have hfx := fun j => bl.frozen (p := ⟨w.heap.size, j, none⟩) (by simp)
  have hsz := bl.size
  simp at hsz
  have hlt : w.heap.size < w3.heap.size := by omega
  go_wp2
  refine bodyPost_ret (v := .tuple #[msgV 0 [], .int .i64 2]) (by simp [results, Tryd.results20, go_sem, msgV, B, hbx]) rfl ⟨rfl, ?_⟩
  iterate 4 (refine Below.setCell ?_ (by simp) _)
  exact (belDrewN ((Below.refl _ _).alloc (Nat.le_refl _) _) n).trans (bl.mono (by simp))

set_option maxRecDepth 100000 in
set_option maxHeartbeats 1000000 in
theorem rparse_no2 (s : ByteArray) (w : World) (hs : s.size ≤ 1048576) (l0 r0 : List UInt8) (hL : cutL 10 s.data.toList = (l0, r0, true)) (h4 : l0.length < 4) :
    Calls Tryd.prog 20 #[.string s] w fun e w' => e = .returned (.tuple #[msgV 0 [], .int .i64 2]) ∧ Below w.heap.size w w' := by
  have HL : Hid (cutL 10 s.data.toList = _) := hL
  clear hL
  have HS : Hid (s.size ≤ 281474976710656) := by show _ ≤ _; omega
  have q : ((B l0).size : Int) < 4 := by rw [B_size]; omega
  go_enter Tryd.func20, Tryd.ntmps20
  go_wp2_with (go_at_call 51; refine (upTo_any s 10 10 rfl _ HS.out).mono ?_; rintro e w1 ⟨rfl, n, rfl⟩; rw [HL.out])
  refine (no_any 2 _).mono ?_
  rintro e w3 ⟨rfl, bl⟩
  simp only [msgV]
  have hbx := fun j => bl.cell (p := ⟨w.heap.size, j, none⟩) (by simp)
  have hfx := fun j => bl.frozen (p := ⟨w.heap.size, j, none⟩) (by simp)
  have hsz := bl.size
  simp at hsz
  have hlt : w.heap.size < w3.heap.size := by omega
  go_wp2
  refine bodyPost_ret (v := .tuple #[msgV 0 [], .int .i64 2]) (by simp [results, Tryd.results20, go_sem, msgV, B, hbx]) rfl ⟨rfl, ?_⟩
  iterate 4 (refine Below.setCell ?_ (by simp) _)
  exact (belDrewN ((Below.refl _ _).alloc (Nat.le_refl _) _) n).trans (bl.mono (by simp))

set_option maxRecDepth 100000 in
set_option maxHeartbeats 1000000 in
theorem rparse_no3 (s : ByteArray) (w : World) (hs : s.size ≤ 1048576) (l0 r0 : List UInt8) (hL : cutL 10 s.data.toList = (l0, r0, true)) (h4 : 4 ≤ l0.length) (h5 : (l0.take 4 == [97, 115, 107, 32]) = false) (h6 : (l0.take 4 == [115, 97, 121, 32]) = false) :
    Calls Tryd.prog 20 #[.string s] w fun e w' => e = .returned (.tuple #[msgV 0 [], .int .i64 2]) ∧ Below w.heap.size w w' := by
  have HL : Hid (cutL 10 s.data.toList = _) := hL
  clear hL
  have HS : Hid (s.size ≤ 281474976710656) := by show _ ≤ _; omega
  have q : ¬ ((B l0).size : Int) < 4 := by rw [B_size]; omega
  have q2 : 4 ≤ ((B l0).size : Int) := by rw [B_size]; omega
  have h5' : (((B l0).extract 0 4).toList == [97, 115, 107, 32]) = false := by rw [extract4]; exact h5
  have h6' : (((B l0).extract 0 4).toList == [115, 97, 121, 32]) = false := by rw [extract4]; exact h6
  go_enter Tryd.func20, Tryd.ntmps20
  go_wp2_with (go_at_call 51; refine (upTo_any s 10 10 rfl _ HS.out).mono ?_; rintro e w1 ⟨rfl, n, rfl⟩; rw [HL.out])
  refine (no_any 2 _).mono ?_
  rintro e w3 ⟨rfl, bl⟩
  simp only [msgV]
  have hbx := fun j => bl.cell (p := ⟨w.heap.size, j, none⟩) (by simp; omega)
  have hfx := fun j => bl.frozen (p := ⟨w.heap.size, j, none⟩) (by simp; omega)
  have hsz := bl.size
  simp at hsz
  have hlt : w.heap.size < w3.heap.size := by omega
  go_wp2
  refine bodyPost_ret (v := .tuple #[msgV 0 [], .int .i64 2]) (by simp [results, Tryd.results20, go_sem, msgV, B, hbx]) rfl ⟨rfl, ?_⟩
  iterate 4 (refine Below.setCell ?_ (by simp) _)
  exact ((belDrewN ((Below.refl _ _).alloc (Nat.le_refl _) _) n).alloc (by simp) _).trans (bl.mono (by simp; omega))


set_option maxRecDepth 100000 in
set_option maxHeartbeats 1000000 in
theorem rparse_no4 (s : ByteArray) (w : World) (hs : s.size ≤ 1048576) (l0 r0 : List UInt8) (hL : cutL 10 s.data.toList = (l0, r0, true)) (h4 : 4 ≤ l0.length) (h5 : (l0.take 4 == [97, 115, 107, 32]) = false) (h6 : (l0.take 4 == [115, 97, 121, 32]) = true) (hg : Glob w) (hO : Lib.atoiAll (l0.drop 4) = .syntax) :
    Calls Tryd.prog 20 #[.string s] w fun e w' => e = .returned (.tuple #[msgV 0 [], .int .i64 2]) ∧ Below w.heap.size w w' := by
  have HL : Hid (cutL 10 s.data.toList = _) := hL
  clear hL
  have HS : Hid (s.size ≤ 281474976710656) := by show _ ≤ _; omega
  have q : ¬ ((B l0).size : Int) < 4 := by rw [B_size]; omega
  have q2 : 4 ≤ ((B l0).size : Int) := by rw [B_size]; omega
  have h5' : (((B l0).extract 0 4).toList == [97, 115, 107, 32]) = false := by rw [extract4]; exact h5
  have h6' : (((B l0).extract 0 4).toList == [115, 97, 121, 32]) = true := by rw [extract4]; exact h6
  have e4 : (B l0).extract 4 (B l0).size = B (l0.drop 4) := by rw [extract_B, B_data, List.take_of_length_le (by rw [B_size]; simp)]
  have HZ : Hid ((B (l0.drop 4)).size ≤ 281474976710656) := by
    show (B (l0.drop 4)).size ≤ _
    have h1 := (cutL_len 10 s.data.toList).2.2
    rw [HL.out] at h1
    have h2 : s.data.toList.length = s.size := by simp
    rw [B_size, List.length_drop]
    simp only at h1
    omega
  clear h5 h6
  have HO : Hid (Lib.atoiAll (B (l0.drop 4)).data.toList = .syntax) := by show _ = _; rw [B_data]; exact hO
  clear hO
  have bw : ∀ o o' m, Below w.heap.size w (((w.alloc o).drewN m).alloc o') := fun o o' m => (belDrewN ((Below.refl _ _).alloc (Nat.le_refl _) _) m).alloc (by simp) _
  go_enter Tryd.func20, Tryd.ntmps20
  go_wp2_with (go_at_call 51; refine (upTo_any s 10 10 rfl _ HS.out).mono ?_; rintro e w1 ⟨rfl, n, rfl⟩; rw [HL.out])
  obtain ⟨tp, p, hv⟩ := (hg.below (bw _ _ _)).syn
  refine (Tryd.strconv_Atoi_syntax_var _ HZ.out HO.out tp p _ hv).mono ?_
  rintro e w2 ⟨N, rfl, _, _, b2⟩
  clear hv
  have hcx := fun j => b2.cell (p := ⟨w.heap.size, j, none⟩) (by simp; omega)
  have hcf := fun j => b2.frozen (p := ⟨w.heap.size, j, none⟩) (by simp; omega)
  have hsz2 := b2.size
  simp at hsz2
  have hg2 := (hg.below (bw _ _ _)).below b2
  have b02 : Below w.heap.size w w2 := (bw _ _ _).trans (b2.mono (by simp; omega))
  go_wp2
  refine wp_region_quiet_below Tryd.mixed (by kernel_rfl) ?_
  repeat (go_big_quiet_step (fail))
  refine wpQuiet_nil ?_
  intro _ hw'
  obtain ⟨⟨dq, osq⟩, hw''⟩ := hw'
  subst hw''
  have b4 := below_regrown w2 dq osq
  obtain ⟨w4, hw4⟩ : ∃ w4, Sort.grow (redrawn w2 dq) osq = w4 := ⟨_, rfl⟩
  rw [hw4] at b4 ⊢
  clear hw4
  have hdx := fun j => (b4.cell (p := ⟨w.heap.size, j, none⟩) (by show w.heap.size < _; omega)).trans (hcx j)
  have hdf := fun j => (b4.frozen (p := ⟨w.heap.size, j, none⟩) (by show w.heap.size < _; omega)).trans (hcf j)
  have hsz4 := b4.size
  have b04 : Below w.heap.size w w4 := b02.trans (b4.mono (by omega))
  clear b4 b2 hcx hcf
  go_wp2_with fail
  refine (no_any 2 _).mono ?_
  rintro e w3 ⟨rfl, bl⟩
  simp only [msgV]
  have hbx := fun j => bl.cell (p := ⟨w.heap.size, j, none⟩) (by show w.heap.size < _; omega)
  have hfx := fun j => bl.frozen (p := ⟨w.heap.size, j, none⟩) (by show w.heap.size < _; omega)
  have hsz := bl.size
  have hlt : w.heap.size < w3.heap.size := by omega
  go_wp2
  refine bodyPost_ret (v := .tuple #[msgV 0 [], .int .i64 2]) (by simp [results, Tryd.results20, go_sem, msgV, B, hbx, hdx]) rfl ⟨rfl, ?_⟩
  iterate 4 (refine Below.setCell ?_ (by simp) _)
  exact b04.trans (bl.mono (by omega))

set_option maxRecDepth 100000 in
set_option maxHeartbeats 1000000 in
theorem rparse_no5 (s : ByteArray) (w : World) (hs : s.size ≤ 1048576) (l0 r0 : List UInt8) (hL : cutL 10 s.data.toList = (l0, r0, true)) (h4 : 4 ≤ l0.length) (h5 : (l0.take 4 == [97, 115, 107, 32]) = false) (h6 : (l0.take 4 == [115, 97, 121, 32]) = true) (hg : Glob w) (hO : Lib.atoiAll (l0.drop 4) = .range) :
    Calls Tryd.prog 20 #[.string s] w fun e w' => e = .returned (.tuple #[msgV 0 [], .int .i64 2]) ∧ Below w.heap.size w w' := by
  have HL : Hid (cutL 10 s.data.toList = _) := hL
  clear hL
  have HS : Hid (s.size ≤ 281474976710656) := by show _ ≤ _; omega
  have q : ¬ ((B l0).size : Int) < 4 := by rw [B_size]; omega
  have q2 : 4 ≤ ((B l0).size : Int) := by rw [B_size]; omega
  have h5' : (((B l0).extract 0 4).toList == [97, 115, 107, 32]) = false := by rw [extract4]; exact h5
  have h6' : (((B l0).extract 0 4).toList == [115, 97, 121, 32]) = true := by rw [extract4]; exact h6
  have e4 : (B l0).extract 4 (B l0).size = B (l0.drop 4) := by rw [extract_B, B_data, List.take_of_length_le (by rw [B_size]; simp)]
  have HZ : Hid ((B (l0.drop 4)).size ≤ 281474976710656) := by
    show (B (l0.drop 4)).size ≤ _
    have h1 := (cutL_len 10 s.data.toList).2.2
    rw [HL.out] at h1
    have h2 : s.data.toList.length = s.size := by simp
    rw [B_size, List.length_drop]
    simp only at h1
    omega
  clear h5 h6
  have HO : Hid (Lib.atoiAll (B (l0.drop 4)).data.toList = .range) := by show _ = _; rw [B_data]; exact hO
  clear hO
  have bw : ∀ o o' m, Below w.heap.size w (((w.alloc o).drewN m).alloc o') := fun o o' m => (belDrewN ((Below.refl _ _).alloc (Nat.le_refl _) _) m).alloc (by simp) _
  go_enter Tryd.func20, Tryd.ntmps20
  go_wp2_with (go_at_call 51; refine (upTo_any s 10 10 rfl _ HS.out).mono ?_; rintro e w1 ⟨rfl, n, rfl⟩; rw [HL.out])
  obtain ⟨tp, p, hv⟩ := (hg.below (bw _ _ _)).rng
  refine (Tryd.strconv_Atoi_range_var _ HZ.out HO.out tp p _ hv).mono ?_
  rintro e w2 ⟨N, rfl, _, _, b2⟩
  clear hv
  have hcx := fun j => b2.cell (p := ⟨w.heap.size, j, none⟩) (by simp; omega)
  have hcf := fun j => b2.frozen (p := ⟨w.heap.size, j, none⟩) (by simp; omega)
  have hsz2 := b2.size
  simp at hsz2
  have hg2 := (hg.below (bw _ _ _)).below b2
  have b02 : Below w.heap.size w w2 := (bw _ _ _).trans (b2.mono (by simp; omega))
  go_wp2
  refine wp_region_quiet_below Tryd.mixed (by kernel_rfl) ?_
  repeat (go_big_quiet_step (fail))
  refine wpQuiet_nil ?_
  intro _ hw'
  obtain ⟨⟨dq, osq⟩, hw''⟩ := hw'
  subst hw''
  have b4 := below_regrown w2 dq osq
  obtain ⟨w4, hw4⟩ : ∃ w4, Sort.grow (redrawn w2 dq) osq = w4 := ⟨_, rfl⟩
  rw [hw4] at b4 ⊢
  clear hw4
  have hdx := fun j => (b4.cell (p := ⟨w.heap.size, j, none⟩) (by show w.heap.size < _; omega)).trans (hcx j)
  have hdf := fun j => (b4.frozen (p := ⟨w.heap.size, j, none⟩) (by show w.heap.size < _; omega)).trans (hcf j)
  have hsz4 := b4.size
  have b04 : Below w.heap.size w w4 := b02.trans (b4.mono (by omega))
  clear b4 b2 hcx hcf
  go_wp2_with fail
  refine (no_any 2 _).mono ?_
  rintro e w3 ⟨rfl, bl⟩
  simp only [msgV]
  have hbx := fun j => bl.cell (p := ⟨w.heap.size, j, none⟩) (by show w.heap.size < _; omega)
  have hfx := fun j => bl.frozen (p := ⟨w.heap.size, j, none⟩) (by show w.heap.size < _; omega)
  have hsz := bl.size
  have hlt : w.heap.size < w3.heap.size := by omega
  go_wp2
  refine bodyPost_ret (v := .tuple #[msgV 0 [], .int .i64 2]) (by simp [results, Tryd.results20, go_sem, msgV, B, hbx, hdx]) rfl ⟨rfl, ?_⟩
  iterate 4 (refine Below.setCell ?_ (by simp) _)
  exact b04.trans (bl.mono (by omega))

set_option maxRecDepth 100000 in
set_option maxHeartbeats 1000000 in
theorem rparse_no6 (s : ByteArray) (w : World) (hs : s.size ≤ 1048576) (l0 r0 : List UInt8) (hL : cutL 10 s.data.toList = (l0, r0, true)) (h4 : 4 ≤ l0.length) (h5 : (l0.take 4 == [97, 115, 107, 32]) = false) (h6 : (l0.take 4 == [115, 97, 121, 32]) = true) (hg : Glob w) (n0 : Int) (hO : Lib.atoiAll (l0.drop 4) = .ok n0) (h0 : n0 = 0) :
    Calls Tryd.prog 20 #[.string s] w fun e w' => e = .returned (.tuple #[msgV 0 [], .int .i64 2]) ∧ Below w.heap.size w w' := by
  have HL : Hid (cutL 10 s.data.toList = _) := hL
  clear hL
  have HS : Hid (s.size ≤ 281474976710656) := by show _ ≤ _; omega
  have q : ¬ ((B l0).size : Int) < 4 := by rw [B_size]; omega
  have q2 : 4 ≤ ((B l0).size : Int) := by rw [B_size]; omega
  have h5' : (((B l0).extract 0 4).toList == [97, 115, 107, 32]) = false := by rw [extract4]; exact h5
  have h6' : (((B l0).extract 0 4).toList == [115, 97, 121, 32]) = true := by rw [extract4]; exact h6
  have e4 : (B l0).extract 4 (B l0).size = B (l0.drop 4) := by rw [extract_B, B_data, List.take_of_length_le (by rw [B_size]; simp)]
  have HZ : Hid ((B (l0.drop 4)).size ≤ 281474976710656) := by
    show (B (l0.drop 4)).size ≤ _
    have h1 := (cutL_len 10 s.data.toList).2.2
    rw [HL.out] at h1
    have h2 : s.data.toList.length = s.size := by simp
    rw [B_size, List.length_drop]
    simp only at h1
    omega
  clear h5 h6
  have HB : Hid (-9223372036854775808 ≤ n0 ∧ n0 ≤ 9223372036854775807) := Lib.atoiAll_bounds hO
  have HO : Hid (Lib.atoiAll (B (l0.drop 4)).data.toList = .ok n0) := by show _ = _; rw [B_data]; exact hO
  clear hO
  have HZ2 : Hid ((B (l0.drop 4)).size ≤ 9223372036854775806) := by show _ ≤ _; have := HZ.out; omega
  have q0 : (n0 == 0) = true := by simp [h0]
  clear h0
  have bw : ∀ o o' m, Below w.heap.size w (((w.alloc o).drewN m).alloc o') := fun o o' m => (belDrewN ((Below.refl _ _).alloc (Nat.le_refl _) _) m).alloc (by simp) _
  go_enter Tryd.func20, Tryd.ntmps20
  go_wp2_with (go_at_call 51; refine (upTo_any s 10 10 rfl _ HS.out).mono ?_; rintro e w1 ⟨rfl, n, rfl⟩; rw [HL.out])
  refine (Tryd.strconv_Atoi_ok _ HZ2.out n0 HO.out _).mono ?_
  rintro e w2 ⟨rfl, hw2⟩
  have b2 := atoi_bel hw2
  clear hw2
  have hcx := fun j => b2.cell (p := ⟨w.heap.size, j, none⟩) (by simp; omega)
  have hcf := fun j => b2.frozen (p := ⟨w.heap.size, j, none⟩) (by simp; omega)
  have hsz2 := b2.size
  simp at hsz2
  have hg2 := (hg.below (bw _ _ _)).below b2
  have b02 : Below w.heap.size w w2 := (bw _ _ _).trans (b2.mono (by simp; omega))
  go_wp2
  refine wp_region_quiet_below Tryd.mixed (by kernel_rfl) ?_
  repeat (go_big_quiet_step (fail))
  refine wpQuiet_nil ?_
  intro _ hw'
  obtain ⟨⟨dq, osq⟩, hw''⟩ := hw'
  subst hw''
  have b4 := below_regrown w2 dq osq
  obtain ⟨w4, hw4⟩ : ∃ w4, Sort.grow (redrawn w2 dq) osq = w4 := ⟨_, rfl⟩
  rw [hw4] at b4 ⊢
  clear hw4
  have hdx := fun j => (b4.cell (p := ⟨w.heap.size, j, none⟩) (by show w.heap.size < _; omega)).trans (hcx j)
  have hdf := fun j => (b4.frozen (p := ⟨w.heap.size, j, none⟩) (by show w.heap.size < _; omega)).trans (hcf j)
  have hsz4 := b4.size
  have b04 : Below w.heap.size w w4 := b02.trans (b4.mono (by omega))
  clear b4 b2 hcx hcf
  go_wp2_with fail
  refine (no_any 2 _).mono ?_
  rintro e w3 ⟨rfl, bl⟩
  simp only [msgV]
  have hbx := fun j => bl.cell (p := ⟨w.heap.size, j, none⟩) (by show w.heap.size < _; omega)
  have hfx := fun j => bl.frozen (p := ⟨w.heap.size, j, none⟩) (by show w.heap.size < _; omega)
  have hsz := bl.size
  have hlt : w.heap.size < w3.heap.size := by omega
  go_wp2
  refine bodyPost_ret (v := .tuple #[msgV 0 [], .int .i64 2]) (by simp [results, Tryd.results20, go_sem, msgV, B, hbx, hdx]) rfl ⟨rfl, ?_⟩
  iterate 4 (refine Below.setCell ?_ (by simp) _)
  exact b04.trans (bl.mono (by omega))

set_option maxRecDepth 100000 in
set_option maxHeartbeats 1000000 in
theorem rparse_no7 (s : ByteArray) (w : World) (hs : s.size ≤ 1048576) (l0 r0 : List UInt8) (hL : cutL 10 s.data.toList = (l0, r0, true)) (h4 : 4 ≤ l0.length) (h5 : (l0.take 4 == [97, 115, 107, 32]) = false) (h6 : (l0.take 4 == [115, 97, 121, 32]) = true) (hg : Glob w) (n0 : Int) (hO : Lib.atoiAll (l0.drop 4) = .ok n0) (h0 : ¬ n0 = 0) (h1 : ¬ Lib.itoa n0 = l0.drop 4) :
    Calls Tryd.prog 20 #[.string s] w fun e w' => e = .returned (.tuple #[msgV 0 [], .int .i64 2]) ∧ Below w.heap.size w w' := by
  have HL : Hid (cutL 10 s.data.toList = _) := hL
  clear hL
  have HS : Hid (s.size ≤ 281474976710656) := by show _ ≤ _; omega
  have q : ¬ ((B l0).size : Int) < 4 := by rw [B_size]; omega
  have q2 : 4 ≤ ((B l0).size : Int) := by rw [B_size]; omega
  have h5' : (((B l0).extract 0 4).toList == [97, 115, 107, 32]) = false := by rw [extract4]; exact h5
  have h6' : (((B l0).extract 0 4).toList == [115, 97, 121, 32]) = true := by rw [extract4]; exact h6
  have e4 : (B l0).extract 4 (B l0).size = B (l0.drop 4) := by rw [extract_B, B_data, List.take_of_length_le (by rw [B_size]; simp)]
  have HZ : Hid ((B (l0.drop 4)).size ≤ 281474976710656) := by
    show (B (l0.drop 4)).size ≤ _
    have h1 := (cutL_len 10 s.data.toList).2.2
    rw [HL.out] at h1
    have h2 : s.data.toList.length = s.size := by simp
    rw [B_size, List.length_drop]
    simp only at h1
    omega
  clear h5 h6
  have HB : Hid (-9223372036854775808 ≤ n0 ∧ n0 ≤ 9223372036854775807) := Lib.atoiAll_bounds hO
  have HO : Hid (Lib.atoiAll (B (l0.drop 4)).data.toList = .ok n0) := by show _ = _; rw [B_data]; exact hO
  clear hO
  have HZ2 : Hid ((B (l0.drop 4)).size ≤ 9223372036854775806) := by show _ ≤ _; have := HZ.out; omega
  have q0 : (n0 == 0) = false := by simp [h0]
  have q3 : ((B (Lib.itoa n0)).toList == (B (l0.drop 4)).toList) = false := by rw [toList_eq, toList_eq, B_data, B_data]; simpa using h1
  clear h0 h1
  have bw : ∀ o o' m, Below w.heap.size w (((w.alloc o).drewN m).alloc o') := fun o o' m => (belDrewN ((Below.refl _ _).alloc (Nat.le_refl _) _) m).alloc (by simp) _
  go_enter Tryd.func20, Tryd.ntmps20
  go_wp2_with (go_at_call 51; refine (upTo_any s 10 10 rfl _ HS.out).mono ?_; rintro e w1 ⟨rfl, n, rfl⟩; rw [HL.out])
  refine (Tryd.strconv_Atoi_ok _ HZ2.out n0 HO.out _).mono ?_
  rintro e w2 ⟨rfl, hw2⟩
  have b2 := atoi_bel hw2
  clear hw2
  have hcx := fun j => b2.cell (p := ⟨w.heap.size, j, none⟩) (by simp; omega)
  have hcf := fun j => b2.frozen (p := ⟨w.heap.size, j, none⟩) (by simp; omega)
  have hsz2 := b2.size
  simp at hsz2
  have hg2 := (hg.below (bw _ _ _)).below b2
  have b02 : Below w.heap.size w w2 := (bw _ _ _).trans (b2.mono (by simp; omega))
  go_wp2
  refine wp_region_quiet_below Tryd.mixed (by kernel_rfl) ?_
  repeat (go_big_quiet_step (first | (go_at_call 38; exact Calls.regrown_of (itoa_below n0 HB.out.1 HB.out.2 _ ((hg2.below (below_regrown w2 _ _)).tab)))))
  refine wpQuiet_nil ?_
  intro _ hw'
  obtain ⟨⟨dq, osq⟩, hw''⟩ := hw'
  subst hw''
  have b4 := below_regrown w2 dq osq
  obtain ⟨w4, hw4⟩ : ∃ w4, Sort.grow (redrawn w2 dq) osq = w4 := ⟨_, rfl⟩
  rw [hw4] at b4 ⊢
  clear hw4
  have hdx := fun j => (b4.cell (p := ⟨w.heap.size, j, none⟩) (by show w.heap.size < _; omega)).trans (hcx j)
  have hdf := fun j => (b4.frozen (p := ⟨w.heap.size, j, none⟩) (by show w.heap.size < _; omega)).trans (hcf j)
  have hsz4 := b4.size
  have b04 : Below w.heap.size w w4 := b02.trans (b4.mono (by omega))
  clear b4 b2 hcx hcf
  go_wp2_with fail
  refine (no_any 2 _).mono ?_
  rintro e w3 ⟨rfl, bl⟩
  simp only [msgV]
  have hbx := fun j => bl.cell (p := ⟨w.heap.size, j, none⟩) (by show w.heap.size < _; omega)
  have hfx := fun j => bl.frozen (p := ⟨w.heap.size, j, none⟩) (by show w.heap.size < _; omega)
  have hsz := bl.size
  have hlt : w.heap.size < w3.heap.size := by omega
  go_wp2
  refine bodyPost_ret (v := .tuple #[msgV 0 [], .int .i64 2]) (by simp [results, Tryd.results20, go_sem, msgV, B, hbx, hdx]) rfl ⟨rfl, ?_⟩
  iterate 4 (refine Below.setCell ?_ (by simp) _)
  exact b04.trans (bl.mono (by omega))
end Go.Proofs.YtlkfkhpokkjkpaaDoor
