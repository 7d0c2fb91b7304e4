/- What package ledger's functions come to: Take. -/
import Derived.Test.YtnhndieoaceofaaLedK
import Derived.Test.YtnhndieoaceofaaLedU
import Derived.Deep.DeepMust
namespace Go.Proofs.Ytnhndieoaceofaa
open Go.RowKit

theorem Try.mixed : Try.prog.follows .mixedOrders = true := by kernel_rfl

/-- A box of five cells, as it lies. -/
structure Box5 (W : World) (b : Nat) (v0 v1 v2 v3 v4 : Value) : Prop where
  c0 : W.cell? ⟨b, 0, none⟩ = some v0
  c1 : W.cell? ⟨b, 1, none⟩ = some v1
  c2 : W.cell? ⟨b, 2, none⟩ = some v2
  c3 : W.cell? ⟨b, 3, none⟩ = some v3
  c4 : W.cell? ⟨b, 4, none⟩ = some v4
  fz : ∀ j, W.frozen? ⟨b, j, none⟩ = false
  lt : b < W.heap.size
theorem Box5.keep {W W' : World} {b : Nat} {v0 v1 v2 v3 v4 : Value} (h : Box5 W b v0 v1 v2 v3 v4) (hb : Below W.heap.size W W') : Box5 W' b v0 v1 v2 v3 v4 := by
  have e := fun j => hb.cell (p := ⟨b, j, none⟩) h.lt
  exact ⟨by rw [e]; exact h.c0, by rw [e]; exact h.c1, by rw [e]; exact h.c2, by rw [e]; exact h.c3, by rw [e]; exact h.c4, fun j => by rw [hb.frozen (p := ⟨b, j, none⟩) h.lt]; exact h.fz j, Nat.lt_of_lt_of_le h.lt hb.size⟩

theorem set5_owns {w : World} {base b n : Nat} {l : Lg} {ao so : Option Addr} {c sc : Nat} {xs : List Value} (h : w.ownsRow base 52 3 (.slice so n sc) n xs) (hb : b < base) : (set5 w b l ao c).ownsRow base 52 3 (.slice so n sc) n xs := by
  unfold set5
  refine ownsRow_setCell_below (ownsRow_setCell_below (ownsRow_setCell_below (ownsRow_setCell_below (ownsRow_setCell_below h ?_ _) ?_ _) ?_ _) ?_ _) ?_ _ <;> exact hb

set_option maxRecDepth 100000 in
set_option maxHeartbeats 2000000 in
theorem take_in (l : Lg) (v : Value) (id kind filter : Int) (w : World) (hl : LgAt w v l) (hr : (l.holds.length + 1) * 24 ≤ 140737488355328) (hk : kind = 1 ∨ kind = 2 ∨ kind = 3) :
    Calls Try.prog 28 #[v, .int .i64 id, .int .i64 kind, .int .i64 filter] w fun e w' => ∃ v', e = .returned (.tuple #[v', .int .i64 (takeE l kind)]) ∧ LgNew w.heap.size w' v' (takeR l id kind filter) ∧ Below w.heap.size w w' := by
  obtain ⟨ao, c, rfl⟩ := lgAt_form hl
  have hsm : l.holds.length ≤ maxLen := by obtain ⟨_, _, _, h, _⟩ := hl; exact h.small
  have HSM : Hid (l.holds.length ≤ maxLen) := hsm
  unfold maxLen at hsm
  obtain ⟨i27, hi27, hz27, hs27, hb27⟩ := info_parts Try.info27
  obtain ⟨W2, hW2⟩ : ∃ W2, (w.alloc (.cells #[.slice ao l.holds.length c, .int .i64 l.m0, .int .i64 l.m1, .int .i64 l.m2, .int .i64 l.m3] 25)).alloc (.cells #[.slice none 0 0, .int .i64 0, .int .i64 0, .int .i64 0, .int .i64 0] 25) = W2 := ⟨_, rfl⟩
  have hbel : Below w.heap.size w W2 := by rw [← hW2]; exact ((Below.refl _ _).alloc (Nat.le_refl _) _).alloc (by simp) _
  have hsz : W2.heap.size = w.heap.size + 2 := by rw [← hW2]; simp
  have HLG : Hid (LgAt W2 (lgV l ao c) l) := hl.below (Nat.le_refl _) hbel
  have b0 : W2.cell? ⟨w.heap.size, 0, none⟩ = some (.slice ao l.holds.length c) := by rw [← hW2]; simp [go_sem]
  have b1 : W2.cell? ⟨w.heap.size, 1, none⟩ = some (.int .i64 l.m0) := by rw [← hW2]; simp [go_sem]
  have b2 : W2.cell? ⟨w.heap.size, 2, none⟩ = some (.int .i64 l.m1) := by rw [← hW2]; simp [go_sem]
  have b3 : W2.cell? ⟨w.heap.size, 3, none⟩ = some (.int .i64 l.m2) := by rw [← hW2]; simp [go_sem]
  have b4 : W2.cell? ⟨w.heap.size, 4, none⟩ = some (.int .i64 l.m3) := by rw [← hW2]; simp [go_sem]
  have bf : ∀ j, W2.frozen? ⟨w.heap.size, j, none⟩ = false := by intro j; rw [← hW2]; simp [go_sem]
  have z0 : W2.cell? ⟨w.heap.size + 1, 0, none⟩ = some (.slice none 0 0) := by rw [← hW2]; simp [go_sem]
  have z1 : W2.cell? ⟨w.heap.size + 1, 1, none⟩ = some (.int .i64 0) := by rw [← hW2]; simp [go_sem]
  have z2 : W2.cell? ⟨w.heap.size + 1, 2, none⟩ = some (.int .i64 0) := by rw [← hW2]; simp [go_sem]
  have z3 : W2.cell? ⟨w.heap.size + 1, 3, none⟩ = some (.int .i64 0) := by rw [← hW2]; simp [go_sem]
  have z4 : W2.cell? ⟨w.heap.size + 1, 4, none⟩ = some (.int .i64 0) := by rw [← hW2]; simp [go_sem]
  have zf : ∀ j, W2.frozen? ⟨w.heap.size + 1, j, none⟩ = false := by intro j; rw [← hW2]; simp [go_sem]
  have HBX : Hid (_ ∧ _ ∧ _ ∧ _ ∧ _ ∧ _) := ⟨b0, b1, b2, b3, b4, bf⟩
  have HZX : Hid (_ ∧ _ ∧ _ ∧ _ ∧ _ ∧ _) := ⟨z0, z1, z2, z3, z4, zf⟩
  have g0 : ∀ d os, (Sort.grow (redrawn W2 d) os).cell? ⟨w.heap.size, 0, none⟩ = some (.slice ao l.holds.length c) := fun d os => cell_regrown b0 d os
  have g1 : ∀ d os, (Sort.grow (redrawn W2 d) os).cell? ⟨w.heap.size, 1, none⟩ = some (.int .i64 l.m0) := fun d os => cell_regrown b1 d os
  have g2 : ∀ d os, (Sort.grow (redrawn W2 d) os).cell? ⟨w.heap.size, 2, none⟩ = some (.int .i64 l.m1) := fun d os => cell_regrown b2 d os
  have g3 : ∀ d os, (Sort.grow (redrawn W2 d) os).cell? ⟨w.heap.size, 3, none⟩ = some (.int .i64 l.m2) := fun d os => cell_regrown b3 d os
  have g4 : ∀ d os, (Sort.grow (redrawn W2 d) os).cell? ⟨w.heap.size, 4, none⟩ = some (.int .i64 l.m3) := fun d os => cell_regrown b4 d os
  have hlg : ∀ d os, Hid (LgAt (Sort.grow (redrawn W2 d) os) (lgV l ao c) l) := fun d os => HLG.out.below (Nat.le_refl _) (below_regrown W2 d os)
  have HR : Hid ((l.holds.length + 1) * 24 ≤ 140737488355328) := hr
  have HW : Hid ((w.alloc (.cells #[.slice ao l.holds.length c, .int .i64 l.m0, .int .i64 l.m1, .int .i64 l.m2, .int .i64 l.m3] 25)).alloc (.cells #[.slice none 0 0, .int .i64 0, .int .i64 0, .int .i64 0, .int .i64 0] 25) = W2) := hW2
  have HZ : Hid (W2.heap.size = w.heap.size + 2) := hsz
  have HB : Hid (Below w.heap.size w W2) := hbel
  have HK : Hid (kind = 1 ∨ kind = 2 ∨ kind = 3) := hk
  have HKN : Hid (knownB kind = true) := known_in hk
  have HT : Hid (takeE l kind = if mostOf l kind ≤ (countL kind l.holds : Int) then 8 else 0) := by show _ = _; unfold takeE; rw [if_neg (by omega)]
  have HCC : Hid (∀ W, LgAt W (lgV l ao c) l → Calls Try.prog 34 #[lgV l ao c, .int .i64 kind] W fun e w' => e = .returned (.int .i64 (countL kind l.holds)) ∧ Below W.heap.size W w') := fun W h => count_any l _ kind W h
  clear hr hW2 hsz hbel b0 b1 b2 b3 b4 bf z0 z1 z2 z3 z4 zf hk hl
  generalize hcnt : countL kind l.holds = cnt at HT HCC
  have HCN : Hid (cnt ≤ l.holds.length) := by rw [← hcnt]; exact countL_le _ _
  clear hcnt
  unfold lgV
  by_cases hf : mostOf l kind ≤ (cnt : Int)
  · have HT8 : Hid (takeE l kind = 8) := by show _ = _; rw [HT.out, if_pos hf]
    clear HT
    rcases HK.out with rfl | rfl | rfl
    all_goals
      go_enter Try.func28, Try.ntmps28
      go_wp2_with (go_at_call 33; refine (known_any _ _).mono ?_; rintro e w' ⟨rfl, rfl⟩; rw [HKN.out])
      rw [HW.out]
      refine wp_region_quiet_below Try.mixed (by kernel_rfl) ?_
      repeat (go_big_quiet_step (first | (go_at_call 34; exact Calls.regrown_of (HCC.out _ (hlg _ _).out))))
      refine wpQuiet_nil ?_
      intro _ hw'
      obtain ⟨⟨dq, osq⟩, hw''⟩ := hw'
      subst hw''
      generalize hw1 : Sort.grow (redrawn W2 dq) osq = w1
      have bl1 : Below W2.heap.size W2 w1 := by rw [← hw1]; exact below_regrown W2 dq osq
      clear g0 g1 g2 g3 g4 hlg hw1
      have bs1 := bl1.size
      rw [HZ.out] at bs1
      have HLG1 : Hid (LgAt w1 (lgV l ao c) l) := HLG.out.below (Nat.le_refl _) bl1
      have HB1 : Hid (Below w.heap.size w w1) := HB.out.trans (bl1.mono HB.out.size)
      have HBX1 : Hid (Box5 w1 w.heap.size (.slice ao l.holds.length c) (.int .i64 l.m0) (.int .i64 l.m1) (.int .i64 l.m2) (.int .i64 l.m3)) := Box5.keep ⟨HBX.out.1, HBX.out.2.1, HBX.out.2.2.1, HBX.out.2.2.2.1, HBX.out.2.2.2.2.1, HBX.out.2.2.2.2.2, by rw [HZ.out]; omega⟩ bl1
      have HZX1 : Hid (Box5 w1 (w.heap.size + 1) (.slice none 0 0) (.int .i64 0) (.int .i64 0) (.int .i64 0) (.int .i64 0)) := Box5.keep ⟨HZX.out.1, HZX.out.2.1, HZX.out.2.2.1, HZX.out.2.2.2.1, HZX.out.2.2.2.2.1, HZX.out.2.2.2.2.2, by rw [HZ.out]; omega⟩ bl1
      have HS1 : Hid (w.heap.size + 2 ≤ w1.heap.size) := bs1
      clear HBX HZX HLG HB HW HCC bl1 bs1
      have Z1 := HZX1.out
      obtain ⟨z0, z1, z2, z3, z4, zf, zl⟩ := Z1
      simp [mostOf] at hf
      go_wp2
      refine bodyPost_ret (v := .tuple #[.agg #[.slice none 0 0, .int .i64 0, .int .i64 0, .int .i64 0, .int .i64 0], .int .i64 8]) (by simp [results, Try.results28, go_sem, z0, z1, z2, z3, z4]) rfl ⟨_, by rw [HT8.out], ?_, ?_⟩
      · rw [takeR, HT8.out]; exact zeroAt _ _
      · iterate 5 (refine Below.setCell ?_ (by simp) _)
        exact HB1.out
  · have HT8 : Hid (takeE l kind = 0) := by show _ = _; rw [HT.out, if_neg hf]
    have HRO : Hid (l.holds.length * 24 ≤ 140737488355328) := by have := HR.out; show _ ≤ _; omega
    have H63 : Hid (l.holds.length + 1 ≤ maxLen) := by have := HR.out; show _ ≤ _; unfold maxLen; omega
    clear HT
    rcases HK.out with rfl | rfl | rfl
    · go_enter Try.func28, Try.ntmps28
      go_wp2_with (go_at_call 33; refine (known_any _ _).mono ?_; rintro e w' ⟨rfl, rfl⟩; rw [HKN.out])
      rw [HW.out]
      refine wp_region_quiet_below Try.mixed (by kernel_rfl) ?_
      repeat (go_big_quiet_step (first | (go_at_call 34; exact Calls.regrown_of (HCC.out _ (hlg _ _).out))))
      refine wpQuiet_nil ?_
      intro _ hw'
      obtain ⟨⟨dq, osq⟩, hw''⟩ := hw'
      subst hw''
      generalize hw1 : Sort.grow (redrawn W2 dq) osq = w1
      have bl1 : Below W2.heap.size W2 w1 := by rw [← hw1]; exact below_regrown W2 dq osq
      clear g0 g1 g2 g3 g4 hlg hw1
      have bs1 := bl1.size
      rw [HZ.out] at bs1
      have HLG1 : Hid (LgAt w1 (lgV l ao c) l) := HLG.out.below (Nat.le_refl _) bl1
      have HB1 : Hid (Below w.heap.size w w1) := HB.out.trans (bl1.mono HB.out.size)
      have HBX1 : Hid (Box5 w1 w.heap.size (.slice ao l.holds.length c) (.int .i64 l.m0) (.int .i64 l.m1) (.int .i64 l.m2) (.int .i64 l.m3)) := Box5.keep ⟨HBX.out.1, HBX.out.2.1, HBX.out.2.2.1, HBX.out.2.2.2.1, HBX.out.2.2.2.2.1, HBX.out.2.2.2.2.2, by rw [HZ.out]; omega⟩ bl1
      have HZX1 : Hid (Box5 w1 (w.heap.size + 1) (.slice none 0 0) (.int .i64 0) (.int .i64 0) (.int .i64 0) (.int .i64 0)) := Box5.keep ⟨HZX.out.1, HZX.out.2.1, HZX.out.2.2.1, HZX.out.2.2.2.1, HZX.out.2.2.2.2.1, HZX.out.2.2.2.2.2, by rw [HZ.out]; omega⟩ bl1
      have HS1 : Hid (w.heap.size + 2 ≤ w1.heap.size) := bs1
      clear HBX HZX HLG HB HW HCC bl1 bs1
      obtain ⟨b0, b1, b2, b3, b4, bf, blt⟩ := HBX1.out
      simp [mostOf] at hf
      go_wp2_with fail
      refine (own_owns l (lgV l ao c) w1 HLG1.out HRO.out).mono ?_
      rintro e w2 ⟨ao2, c2, rfl, own2, bl2⟩
      clear b0 b1 b2 b3 b4 bf blt
      obtain ⟨b0, b1, b2, b3, b4, bf, blt⟩ := HBX1.out.keep bl2
      obtain ⟨z0, z1, z2, z3, z4, zf, zlt⟩ := HZX1.out.keep bl2
      have HB2 : Hid (Below w.heap.size w w2) := HB1.out.trans (bl2.mono HB1.out.size)
      have s2 := bl2.size
      have s1 := HS1.out
      have x2 : ¬ w.heap.size = w2.heap.size := by omega
      have x3 : ¬ w.heap.size + 1 = w2.heap.size := by omega
      have HO2 : Hid (w2.ownsRow w1.heap.size 52 3 (.slice ao2 l.holds.length c2) l.holds.length (hocells l.holds)) := own2.mono (by omega)
      have HLT : Hid (w.heap.size < w1.heap.size) := by show _ < _; omega
      clear bl2 own2
      have HNW : Hid (∀ j u, [Value.int .i64 id, .int .i64 1, .int .i64 filter][j]? = some u → ((set5 w2 w.heap.size l ao2 c2).alloc (.cells #[.int .i64 id, .int .i64 1, .int .i64 filter] 52)).cell? ((⟨w2.heap.size, 0, none⟩ : Addr).add j) = some u) := by have h := World.news_of_block (cs := #[.int .i64 id, .int .i64 1, .int .i64 filter]) (heap_alloc_new (set5 w2 w.heap.size l ao2 c2) (.cells #[.int .i64 id, .int .i64 1, .int .i64 filter] 52)); rw [set5_size] at h; exact h
      unfold lgV
      go_wp2_with (at_builtin; go_must (refine wpList_append_lies _ rfl (.tmp 26) (.tmp 31) 22 rfl w1.heap.size 52 i27 _ 3 24 Try.underlying22 hi27 hz27 hs27 hb27 rfl (by decide) _ l.holds.length (hocells l.holds) rfl ((set5_owns (l := l) (ao := ao2) (c := c2) HO2.out HLT.out).alloc _) ⟨w2.heap.size, 0, none⟩ 1 1 [.int .i64 id, .int .i64 1, .int .i64 filter] rfl rfl HNW.out (hocells_one [⟨id, 1, filter⟩]) (by decide) H63.out HR.out (by simp; omega) (w2.heap.size + 1) (by simp) ?_; intro g cap w3 own3 gr3 _ _; have s3 := gr3.size; have bl3 := (Below.refl (w.heap.size + 2) _).grown gr3 (by simp; omega) (fun j hj => by have := (HO2.out.lt j hj).1; omega); obtain ⟨bc3, bf3, zc3, zf3⟩ := boxes bl3; simp at s3; have y0 : w.heap.size < w3.heap.size := (by omega); have y1 : w.heap.size + 1 < w3.heap.size := (by omega); have HB3 : Hid (Below w.heap.size w w3) := ((set5_below (N := l) (aN := ao2) (cN := c2) HB2.out (Nat.le_refl _)).alloc (by rw [set5_size]; omega) _).grown gr3 (by simp [set5_size]; omega) (fun j hj => by have := (HO2.out.lt j hj).1; omega); have q : ∀ j, w3.cell? ⟨w.heap.size + 1, j, none⟩ = w2.cell? ⟨w.heap.size + 1, j, none⟩ := (fun j => (zc3 j).trans ((World.cell?_alloc_past (w := set5 w2 w.heap.size l ao2 c2) _ _ _ (by rw [set5_size]; omega)).trans (set5_far (by omega)))); have q0 := (q 0).trans z0; have q1 := (q 1).trans z1; have q2 := (q 2).trans z2; have q3 := (q 3).trans z3; have q4 := (q 4).trans z4; clear q))
      refine bodyPost_ret (v := .tuple #[.agg #[.slice (some ⟨g, 0, none⟩) (l.holds.length + 1) cap, .int .i64 l.m0, .int .i64 l.m1, .int .i64 l.m2, .int .i64 l.m3], .int .i64 0]) (by simp [results, Try.results28, go_sem, q0, q1, q2, q3, q4]) rfl ⟨_, by rw [HT8.out], ?_, ?_⟩
      · rw [takeR, HT8.out]
        refine ⟨some ⟨g, 0, none⟩, cap, by simp [lgV], holdsAt_of_owns (base := w1.heap.size) (c := cap) (n := l.holds.length + 1) ?_ (by simp) (by simpa using H63.out), fun e => (by cases e), ?_, (owns_cap own3).2.2, fresh_of_owns own3 (by omega) _⟩
        · iterate 6 (refine ownsRow_setCell_below ?_ (by simp; omega) _)
          simp only [if_pos]
          rw [hocells_append]
          exact own3
        · simpa using (owns_cap own3).2.1
      · iterate 6 (refine Below.setCell ?_ (by simp) _)
        exact HB3.out
    · go_enter Try.func28, Try.ntmps28
      go_wp2_with (go_at_call 33; refine (known_any _ _).mono ?_; rintro e w' ⟨rfl, rfl⟩; rw [HKN.out])
      rw [HW.out]
      refine wp_region_quiet_below Try.mixed (by kernel_rfl) ?_
      repeat (go_big_quiet_step (first | (go_at_call 34; exact Calls.regrown_of (HCC.out _ (hlg _ _).out))))
      refine wpQuiet_nil ?_
      intro _ hw'
      obtain ⟨⟨dq, osq⟩, hw''⟩ := hw'
      subst hw''
      generalize hw1 : Sort.grow (redrawn W2 dq) osq = w1
      have bl1 : Below W2.heap.size W2 w1 := by rw [← hw1]; exact below_regrown W2 dq osq
      clear g0 g1 g2 g3 g4 hlg hw1
      have bs1 := bl1.size
      rw [HZ.out] at bs1
      have HLG1 : Hid (LgAt w1 (lgV l ao c) l) := HLG.out.below (Nat.le_refl _) bl1
      have HB1 : Hid (Below w.heap.size w w1) := HB.out.trans (bl1.mono HB.out.size)
      have HBX1 : Hid (Box5 w1 w.heap.size (.slice ao l.holds.length c) (.int .i64 l.m0) (.int .i64 l.m1) (.int .i64 l.m2) (.int .i64 l.m3)) := Box5.keep ⟨HBX.out.1, HBX.out.2.1, HBX.out.2.2.1, HBX.out.2.2.2.1, HBX.out.2.2.2.2.1, HBX.out.2.2.2.2.2, by rw [HZ.out]; omega⟩ bl1
      have HZX1 : Hid (Box5 w1 (w.heap.size + 1) (.slice none 0 0) (.int .i64 0) (.int .i64 0) (.int .i64 0) (.int .i64 0)) := Box5.keep ⟨HZX.out.1, HZX.out.2.1, HZX.out.2.2.1, HZX.out.2.2.2.1, HZX.out.2.2.2.2.1, HZX.out.2.2.2.2.2, by rw [HZ.out]; omega⟩ bl1
      have HS1 : Hid (w.heap.size + 2 ≤ w1.heap.size) := bs1
      clear HBX HZX HLG HB HW HCC bl1 bs1
      obtain ⟨b0, b1, b2, b3, b4, bf, blt⟩ := HBX1.out
      simp [mostOf] at hf
      go_wp2_with fail
      refine (own_owns l (lgV l ao c) w1 HLG1.out HRO.out).mono ?_
      rintro e w2 ⟨ao2, c2, rfl, own2, bl2⟩
      clear b0 b1 b2 b3 b4 bf blt
      obtain ⟨b0, b1, b2, b3, b4, bf, blt⟩ := HBX1.out.keep bl2
      obtain ⟨z0, z1, z2, z3, z4, zf, zlt⟩ := HZX1.out.keep bl2
      have HB2 : Hid (Below w.heap.size w w2) := HB1.out.trans (bl2.mono HB1.out.size)
      have s2 := bl2.size
      have s1 := HS1.out
      have x2 : ¬ w.heap.size = w2.heap.size := by omega
      have x3 : ¬ w.heap.size + 1 = w2.heap.size := by omega
      have HO2 : Hid (w2.ownsRow w1.heap.size 52 3 (.slice ao2 l.holds.length c2) l.holds.length (hocells l.holds)) := own2.mono (by omega)
      have HLT : Hid (w.heap.size < w1.heap.size) := by show _ < _; omega
      clear bl2 own2
      have HNW : Hid (∀ j u, [Value.int .i64 id, .int .i64 2, .int .i64 filter][j]? = some u → ((set5 w2 w.heap.size l ao2 c2).alloc (.cells #[.int .i64 id, .int .i64 2, .int .i64 filter] 52)).cell? ((⟨w2.heap.size, 0, none⟩ : Addr).add j) = some u) := by have h := World.news_of_block (cs := #[.int .i64 id, .int .i64 2, .int .i64 filter]) (heap_alloc_new (set5 w2 w.heap.size l ao2 c2) (.cells #[.int .i64 id, .int .i64 2, .int .i64 filter] 52)); rw [set5_size] at h; exact h
      unfold lgV
      go_wp2_with (at_builtin; go_must (refine wpList_append_lies _ rfl (.tmp 26) (.tmp 31) 22 rfl w1.heap.size 52 i27 _ 3 24 Try.underlying22 hi27 hz27 hs27 hb27 rfl (by decide) _ l.holds.length (hocells l.holds) rfl ((set5_owns (l := l) (ao := ao2) (c := c2) HO2.out HLT.out).alloc _) ⟨w2.heap.size, 0, none⟩ 1 1 [.int .i64 id, .int .i64 2, .int .i64 filter] rfl rfl HNW.out (hocells_one [⟨id, 2, filter⟩]) (by decide) H63.out HR.out (by simp; omega) (w2.heap.size + 1) (by simp) ?_; intro g cap w3 own3 gr3 _ _; have s3 := gr3.size; have bl3 := (Below.refl (w.heap.size + 2) _).grown gr3 (by simp; omega) (fun j hj => by have := (HO2.out.lt j hj).1; omega); obtain ⟨bc3, bf3, zc3, zf3⟩ := boxes bl3; simp at s3; have y0 : w.heap.size < w3.heap.size := (by omega); have y1 : w.heap.size + 1 < w3.heap.size := (by omega); have HB3 : Hid (Below w.heap.size w w3) := ((set5_below (N := l) (aN := ao2) (cN := c2) HB2.out (Nat.le_refl _)).alloc (by rw [set5_size]; omega) _).grown gr3 (by simp [set5_size]; omega) (fun j hj => by have := (HO2.out.lt j hj).1; omega); have q : ∀ j, w3.cell? ⟨w.heap.size + 1, j, none⟩ = w2.cell? ⟨w.heap.size + 1, j, none⟩ := (fun j => (zc3 j).trans ((World.cell?_alloc_past (w := set5 w2 w.heap.size l ao2 c2) _ _ _ (by rw [set5_size]; omega)).trans (set5_far (by omega)))); have q0 := (q 0).trans z0; have q1 := (q 1).trans z1; have q2 := (q 2).trans z2; have q3 := (q 3).trans z3; have q4 := (q 4).trans z4; clear q))
      refine bodyPost_ret (v := .tuple #[.agg #[.slice (some ⟨g, 0, none⟩) (l.holds.length + 1) cap, .int .i64 l.m0, .int .i64 l.m1, .int .i64 l.m2, .int .i64 l.m3], .int .i64 0]) (by simp [results, Try.results28, go_sem, q0, q1, q2, q3, q4]) rfl ⟨_, by rw [HT8.out], ?_, ?_⟩
      · rw [takeR, HT8.out]
        refine ⟨some ⟨g, 0, none⟩, cap, by simp [lgV], holdsAt_of_owns (base := w1.heap.size) (c := cap) (n := l.holds.length + 1) ?_ (by simp) (by simpa using H63.out), fun e => (by cases e), ?_, (owns_cap own3).2.2, fresh_of_owns own3 (by omega) _⟩
        · iterate 6 (refine ownsRow_setCell_below ?_ (by simp; omega) _)
          simp only [if_pos]
          rw [hocells_append]
          exact own3
        · simpa using (owns_cap own3).2.1
      · iterate 6 (refine Below.setCell ?_ (by simp) _)
        exact HB3.out
    · go_enter Try.func28, Try.ntmps28
      go_wp2_with (go_at_call 33; refine (known_any _ _).mono ?_; rintro e w' ⟨rfl, rfl⟩; rw [HKN.out])
      rw [HW.out]
      refine wp_region_quiet_below Try.mixed (by kernel_rfl) ?_
      repeat (go_big_quiet_step (first | (go_at_call 34; exact Calls.regrown_of (HCC.out _ (hlg _ _).out))))
      refine wpQuiet_nil ?_
      intro _ hw'
      obtain ⟨⟨dq, osq⟩, hw''⟩ := hw'
      subst hw''
      generalize hw1 : Sort.grow (redrawn W2 dq) osq = w1
      have bl1 : Below W2.heap.size W2 w1 := by rw [← hw1]; exact below_regrown W2 dq osq
      clear g0 g1 g2 g3 g4 hlg hw1
      have bs1 := bl1.size
      rw [HZ.out] at bs1
      have HLG1 : Hid (LgAt w1 (lgV l ao c) l) := HLG.out.below (Nat.le_refl _) bl1
      have HB1 : Hid (Below w.heap.size w w1) := HB.out.trans (bl1.mono HB.out.size)
      have HBX1 : Hid (Box5 w1 w.heap.size (.slice ao l.holds.length c) (.int .i64 l.m0) (.int .i64 l.m1) (.int .i64 l.m2) (.int .i64 l.m3)) := Box5.keep ⟨HBX.out.1, HBX.out.2.1, HBX.out.2.2.1, HBX.out.2.2.2.1, HBX.out.2.2.2.2.1, HBX.out.2.2.2.2.2, by rw [HZ.out]; omega⟩ bl1
      have HZX1 : Hid (Box5 w1 (w.heap.size + 1) (.slice none 0 0) (.int .i64 0) (.int .i64 0) (.int .i64 0) (.int .i64 0)) := Box5.keep ⟨HZX.out.1, HZX.out.2.1, HZX.out.2.2.1, HZX.out.2.2.2.1, HZX.out.2.2.2.2.1, HZX.out.2.2.2.2.2, by rw [HZ.out]; omega⟩ bl1
      have HS1 : Hid (w.heap.size + 2 ≤ w1.heap.size) := bs1
      clear HBX HZX HLG HB HW HCC bl1 bs1
      obtain ⟨b0, b1, b2, b3, b4, bf, blt⟩ := HBX1.out
      simp [mostOf] at hf
      go_wp2_with fail
      refine (own_owns l (lgV l ao c) w1 HLG1.out HRO.out).mono ?_
      rintro e w2 ⟨ao2, c2, rfl, own2, bl2⟩
      clear b0 b1 b2 b3 b4 bf blt
      obtain ⟨b0, b1, b2, b3, b4, bf, blt⟩ := HBX1.out.keep bl2
      obtain ⟨z0, z1, z2, z3, z4, zf, zlt⟩ := HZX1.out.keep bl2
      have HB2 : Hid (Below w.heap.size w w2) := HB1.out.trans (bl2.mono HB1.out.size)
      have s2 := bl2.size
      have s1 := HS1.out
      have x2 : ¬ w.heap.size = w2.heap.size := by omega
      have x3 : ¬ w.heap.size + 1 = w2.heap.size := by omega
      have HO2 : Hid (w2.ownsRow w1.heap.size 52 3 (.slice ao2 l.holds.length c2) l.holds.length (hocells l.holds)) := own2.mono (by omega)
      have HLT : Hid (w.heap.size < w1.heap.size) := by show _ < _; omega
      clear bl2 own2
      have HNW : Hid (∀ j u, [Value.int .i64 id, .int .i64 3, .int .i64 filter][j]? = some u → ((set5 w2 w.heap.size l ao2 c2).alloc (.cells #[.int .i64 id, .int .i64 3, .int .i64 filter] 52)).cell? ((⟨w2.heap.size, 0, none⟩ : Addr).add j) = some u) := by have h := World.news_of_block (cs := #[.int .i64 id, .int .i64 3, .int .i64 filter]) (heap_alloc_new (set5 w2 w.heap.size l ao2 c2) (.cells #[.int .i64 id, .int .i64 3, .int .i64 filter] 52)); rw [set5_size] at h; exact h
      unfold lgV
      go_wp2_with (at_builtin; go_must (refine wpList_append_lies _ rfl (.tmp 26) (.tmp 31) 22 rfl w1.heap.size 52 i27 _ 3 24 Try.underlying22 hi27 hz27 hs27 hb27 rfl (by decide) _ l.holds.length (hocells l.holds) rfl ((set5_owns (l := l) (ao := ao2) (c := c2) HO2.out HLT.out).alloc _) ⟨w2.heap.size, 0, none⟩ 1 1 [.int .i64 id, .int .i64 3, .int .i64 filter] rfl rfl HNW.out (hocells_one [⟨id, 3, filter⟩]) (by decide) H63.out HR.out (by simp; omega) (w2.heap.size + 1) (by simp) ?_; intro g cap w3 own3 gr3 _ _; have s3 := gr3.size; have bl3 := (Below.refl (w.heap.size + 2) _).grown gr3 (by simp; omega) (fun j hj => by have := (HO2.out.lt j hj).1; omega); obtain ⟨bc3, bf3, zc3, zf3⟩ := boxes bl3; simp at s3; have y0 : w.heap.size < w3.heap.size := (by omega); have y1 : w.heap.size + 1 < w3.heap.size := (by omega); have HB3 : Hid (Below w.heap.size w w3) := ((set5_below (N := l) (aN := ao2) (cN := c2) HB2.out (Nat.le_refl _)).alloc (by rw [set5_size]; omega) _).grown gr3 (by simp [set5_size]; omega) (fun j hj => by have := (HO2.out.lt j hj).1; omega); have q : ∀ j, w3.cell? ⟨w.heap.size + 1, j, none⟩ = w2.cell? ⟨w.heap.size + 1, j, none⟩ := (fun j => (zc3 j).trans ((World.cell?_alloc_past (w := set5 w2 w.heap.size l ao2 c2) _ _ _ (by rw [set5_size]; omega)).trans (set5_far (by omega)))); have q0 := (q 0).trans z0; have q1 := (q 1).trans z1; have q2 := (q 2).trans z2; have q3 := (q 3).trans z3; have q4 := (q 4).trans z4; clear q))
      refine bodyPost_ret (v := .tuple #[.agg #[.slice (some ⟨g, 0, none⟩) (l.holds.length + 1) cap, .int .i64 l.m0, .int .i64 l.m1, .int .i64 l.m2, .int .i64 l.m3], .int .i64 0]) (by simp [results, Try.results28, go_sem, q0, q1, q2, q3, q4]) rfl ⟨_, by rw [HT8.out], ?_, ?_⟩
      · rw [takeR, HT8.out]
        refine ⟨some ⟨g, 0, none⟩, cap, by simp [lgV], holdsAt_of_owns (base := w1.heap.size) (c := cap) (n := l.holds.length + 1) ?_ (by simp) (by simpa using H63.out), fun e => (by cases e), ?_, (owns_cap own3).2.2, fresh_of_owns own3 (by omega) _⟩
        · iterate 6 (refine ownsRow_setCell_below ?_ (by simp; omega) _)
          simp only [if_pos]
          rw [hocells_append]
          exact own3
        · simpa using (owns_cap own3).2.1
      · iterate 6 (refine Below.setCell ?_ (by simp) _)
        exact HB3.out

theorem take_any (l : Lg) (v : Value) (id kind filter : Int) (w : World) (hl : LgAt w v l) (hr : (l.holds.length + 1) * 24 ≤ 140737488355328) :
    Calls Try.prog 28 #[v, .int .i64 id, .int .i64 kind, .int .i64 filter] w fun e w' => ∃ v', e = .returned (.tuple #[v', .int .i64 (takeE l kind)]) ∧ LgNew w.heap.size w' v' (takeR l id kind filter) ∧ Below w.heap.size w w' := by
  by_cases h : kind < 1 ∨ 3 < kind
  · have e1 : takeE l kind = 1 := by unfold takeE; rw [if_pos h]
    have e2 : takeR l id kind filter = zeroLg := by unfold takeR; rw [e1]; rfl
    rw [e1, e2]
    exact take_kind l v id kind filter w hl h
  · exact take_in l v id kind filter w hl hr (by omega)
end Go.Proofs.Ytnhndieoaceofaa
