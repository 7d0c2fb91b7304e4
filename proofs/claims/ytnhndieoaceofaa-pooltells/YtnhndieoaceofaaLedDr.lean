/- Taking, by the document's own function. -/
import Derived.Test.YtnhndieoaceofaaLedP
namespace Go.Proofs.Ytnhndieoaceofaa
open Go.RowKit

set_option maxRecDepth 100000 in
set_option maxHeartbeats 1000000 in
theorem rtake_kind (l : Lg) (v : Value) (id kind filter : Int) (w : World) (hl : LgAt w v l) (hk : kind < 1 ∨ 3 < kind) :
    Calls Try.prog 20 #[v, .int .i64 id, .int .i64 kind, .int .i64 filter] w fun e w' => ∃ v', e = .returned (.tuple #[v', .int .i64 1]) ∧ LgNew w.heap.size w' v' zeroLg ∧ Below w.heap.size w w' := by
  obtain ⟨ao, c, rfl, a1, _⟩ := hl
  unfold lgV
  rcases hk with h | h
  · have h' : decide (kind < 1) = true := by simp [h]
    go_enter Try.func20, Try.ntmps20
    go_wp2
    refine bodyPost_ret (v := .tuple #[.agg #[.slice none 0 0, .int .i64 0, .int .i64 0, .int .i64 0, .int .i64 0], .int .i64 1]) (by simp [results, Try.results20, go_sem]) rfl ⟨_, rfl, zeroAt _ _, ?_⟩
    exact ((Below.refl _ _).alloc (Nat.le_refl _) _).alloc (by simp) _
  · have h' : decide (kind < 1) = false := by simp; omega
    have h2 : decide (3 < kind) = true := by simp [h]
    go_enter Try.func20, Try.ntmps20
    go_wp2
    refine bodyPost_ret (v := .tuple #[.agg #[.slice none 0 0, .int .i64 0, .int .i64 0, .int .i64 0, .int .i64 0], .int .i64 1]) (by simp [results, Try.results20, go_sem]) rfl ⟨_, rfl, zeroAt _ _, ?_⟩
    exact ((Below.refl _ _).alloc (Nat.le_refl _) _).alloc (by simp) _

set_option maxRecDepth 100000 in
set_option maxHeartbeats 1000000 in
theorem rtake_in (l : Lg) (v : Value) (id kind filter : Int) (w : World) (hl : LgAt w v l) (hr : (l.holds.length + 1) * 24 ≤ 140737488355328) (hk : kind = 1 ∨ kind = 2 ∨ kind = 3) :
    Calls Try.prog 20 #[v, .int .i64 id, .int .i64 kind, .int .i64 filter] w fun e w' => ∃ v', e = .returned (.tuple #[v', .int .i64 (takeE l kind)]) ∧ LgNew w.heap.size w' v' (takeR l id kind filter) ∧ Below w.heap.size w w' := by
  obtain ⟨ao, c, rfl, a1, n1, _⟩ := hl
  unfold lgV
  have hsm := a1.small
  obtain ⟨i27, hi27, hz27, hs27, hb27⟩ := info_parts Try.info27
  have HR : Hid ((l.holds.length + 1) * 24 ≤ 140737488355328) := hr
  have HN : Hid (ao = none → c = 0) := n1
  clear hr n1
  unfold maxLen at hsm
  have H1 : decide (kind < 1) = false := by simp; omega
  have H3 : decide (3 < kind) = false := by simp; omega
  have HK : Hid (kind = 1 ∨ kind = 2 ∨ kind = 3) := hk
  clear hk
  go_enter Try.func20, Try.ntmps20
  go_wp2
  go_loopw [23, 10] (fun i o wr => ∃ (k cnt : Nat), k ≤ l.holds.length ∧ i = .int .i64 k ∧ o = .int .i64 cnt ∧ Below (w.heap.size + 2) ((w.alloc (.cells #[.slice ao l.holds.length c, .int .i64 l.m0, .int .i64 l.m1, .int .i64 l.m2, .int .i64 l.m3] 25)).alloc (.cells #[.slice none 0 0, .int .i64 0, .int .i64 0, .int .i64 0, .int .i64 0] 25)) wr ∧ cnt ≤ k ∧ Hid (countL kind (l.holds.take k) = cnt)) (fun i _ _ => l.holds.length - (intOf i).toNat)
  case atStart => exact ⟨0, 0, by omega, rfl, rfl, Below.refl _ _, Nat.le_refl _, rfl⟩
  case round =>
    obtain ⟨k, cnt, hk, rfl, rfl, hbel, hck, HM⟩ := hrel
    have bw : Below w.heap.size w wr := (((Below.refl _ _).alloc (Nat.le_refl _) _).alloc (by simp) _).trans (hbel.mono (by omega))
    have hsz := hbel.size
    simp at hsz
    by_cases hlt : k < l.holds.length
    · obtain ⟨b, off, rfl, hb, c0, c1, c2⟩ := a1.lies k hlt
      have hlt' : (k : Int) < (l.holds.length : Int) := by omega
      have eb := fun j => bw.cell (p := ⟨b, j, none⟩) hb
      rw [← eb] at c0 c1 c2
      have HS : Hid (countL kind (l.holds.take (k + 1)) = cnt + if (l.holds[k].kind == kind) = true then 1 else 0) := by
        show _ = _
        rw [List.take_add_one, List.getElem?_eq_getElem hlt]
        show countL kind (l.holds.take k ++ [l.holds[k]]) = _
        rw [countL_snoc, HM.out]
      clear eb
      cases e : (l.holds[k].kind == kind) with
      | false =>
        go_wp2
        go_roundw
        case rel => exact ⟨k + 1, cnt, by omega, by go_num, rfl, hbel.alloc (by omega) _, by omega, by show _ = _; rw [HS.out, e]; rfl⟩
        case measure => simp [intOf]; omega
      | true =>
        go_wp2
        go_roundw
        case rel => exact ⟨k + 1, cnt + 1, by omega, by go_num, by go_num, hbel.alloc (by omega) _, by omega, by show _ = _; rw [HS.out, e]; rfl⟩
        case measure => simp [intOf]; omega
    · have HM2 : Hid (countL kind l.holds = cnt) := by
        have := HM.out
        rw [List.take_of_length_le (by omega)] at this
        exact this
      obtain ⟨bc, bf, zc, zf⟩ := boxes hbel
      have HB : Hid (Below w.heap.size w wr) := bw
      clear bw HM
      by_cases hf : mostOf l kind ≤ (cnt : Int)
      · have HT : Hid (takeE l kind = 8) := by
          show _ = _
          unfold takeE
          rw [if_neg (by simp at H1 H3; omega), HM2.out, if_pos hf]
        rcases HK.out with rfl | rfl | rfl
        all_goals
          simp [mostOf] at hf
          go_wp2
          refine bodyPost_ret (v := .tuple #[.agg #[.slice none 0 0, .int .i64 0, .int .i64 0, .int .i64 0, .int .i64 0], .int .i64 8]) (by simp [results, Try.results20, go_sem, zc]) rfl ⟨_, by rw [HT.out], ?_, ?_⟩
          · rw [takeR, HT.out]; exact zeroAt _ _
          · iterate 5 (refine Below.setCell ?_ (by simp) _)
            exact HB.out
      · have HT : Hid (takeE l kind = 0) := by
          show _ = _
          unfold takeE
          rw [if_neg (by simp at H1 H3; omega), HM2.out, if_neg hf]
        have HZ : Hid (ao = none → l.holds.length = 0 ∧ c = 0) := fun h => ⟨holds_zero a1 h, HN.out h⟩
        have A1 := a1.below (Nat.le_refl _) HB.out
        have A2 := A1.below (Nat.le_refl _) ((Below.refl wr.heap.size wr).alloc (Nat.le_refl _) (.cells #[] 52))
        have HA : Hid (HoldsAt (wr.alloc (.cells #[] 52)) ao l.holds) := A2
        have OE : (wr.alloc (.cells #[] 52)).ownsRow (w.heap.size + 2) 52 3 (.slice (some ⟨wr.heap.size, 0, none⟩) 0 0) 0 [] := World.ownsRow_lit (base := w.heap.size + 2) (e := 52) (size := 3) wr #[] 0 (by omega) (by unfold maxLen; omega) rfl
        have HL1 : Hid (l.holds.length * 24 ≤ 140737488355328) := by have := HR.out; show _ ≤ _; omega
        have H63 : Hid (l.holds.length + 1 ≤ maxLen) := by have := HR.out; show _ ≤ _; unfold maxLen; omega
        have x0 : w.heap.size < wr.heap.size := by omega
        have x1 : w.heap.size + 1 < wr.heap.size := by omega
        have x2 : ¬ w.heap.size = wr.heap.size := by omega
        have x3 : ¬ w.heap.size + 1 = wr.heap.size := by omega
        clear A1 A2
        rcases HK.out with rfl | rfl | rfl
        · simp [mostOf] at hf
          go_wp2_with (first
            | (at_builtin; refine wpList_app_empty rfl (.tmp 41) (.tmp 43) 22 rfl (w.heap.size + 2) 52 i27 _ 3 24 Try.underlying22 hi27 hz27 hs27 hb27 rfl (by decide) _ rfl OE ao l.holds.length c (hocells l.holds) rfl HZ.out (hocells_length _) HA.out.news (hocells_one _) (by unfold maxLen; omega) HL1.out (by simp; omega) ?_ rfl; intro ao1 c1 w1 own1 gr1; have bl1 := (hbel.alloc (by omega) _).grown gr1 (by first | (simp; done) | (simp; omega)) (fun j hj => by have e := Option.some.inj hj; omega); obtain ⟨bc1, bf1, zc1, zf1⟩ := boxes bl1; have s1 := gr1.size; simp at s1; have y0 : w.heap.size < w1.heap.size := (by omega); have y1 : w.heap.size + 1 < w1.heap.size := (by omega); have y2 : ¬ w.heap.size = w1.heap.size := (by omega); have y3 : ¬ w.heap.size + 1 = w1.heap.size := (by omega); have NW := World.news_of_block (cs := #[.int .i64 id, .int .i64 1, .int .i64 filter]) (heap_alloc_new w1 (.cells #[.int .i64 id, .int .i64 1, .int .i64 filter] 52)))
            | (at_builtin; refine wpList_append_lies _ rfl (.tmp 44) (.tmp 49) 22 rfl (w.heap.size + 2) 52 i27 _ 3 24 Try.underlying22 hi27 hz27 hs27 hb27 rfl (by decide) _ l.holds.length (hocells l.holds) rfl (own1.alloc _) ⟨w1.heap.size, 0, none⟩ 1 1 [.int .i64 id, .int .i64 1, .int .i64 filter] rfl rfl NW (hocells_one [⟨id, 1, filter⟩]) (by decide) H63.out HR.out (by simp; omega) (w1.heap.size + 1) (by simp) ?_; intro g cap w2 own2 gr2 _ _; have bl2 := (bl1.alloc (by omega) _).grown gr2 (by first | (simp; done) | (simp; omega)) (fun j hj => (own1.lt j hj).1); obtain ⟨bc2, bf2, zc2, zf2⟩ := boxes bl2))
          refine bodyPost_ret (v := .tuple #[.agg #[.slice (some ⟨g, 0, none⟩) (l.holds.length + 1) cap, .int .i64 l.m0, .int .i64 l.m1, .int .i64 l.m2, .int .i64 l.m3], .int .i64 0]) (by simp [results, Try.results20, go_sem, zc2]) rfl ⟨_, by rw [HT.out], ?_, ?_⟩
          · rw [takeR, HT.out]
            refine ⟨some ⟨g, 0, none⟩, cap, by simp [lgV], holdsAt_of_owns (base := w.heap.size + 2) (c := cap) (n := l.holds.length + 1) ?_ (by simp) (by simpa using H63.out), fun e => (by cases e), ?_, (owns_cap own2).2.2, fresh_of_owns own2 (by omega) _⟩
            · iterate 6 (refine ownsRow_setCell_below ?_ (by simp) _)
              simp only [if_pos]
              rw [hocells_append]
              exact own2
            · simpa using (owns_cap own2).2.1
          · iterate 6 (refine Below.setCell ?_ (by simp) _)
            exact (((Below.refl _ _).alloc (Nat.le_refl _) _).alloc (by simp) _).trans (bl2.mono (by omega))
        · simp [mostOf] at hf
          go_wp2_with (first
            | (at_builtin; refine wpList_app_empty rfl (.tmp 41) (.tmp 43) 22 rfl (w.heap.size + 2) 52 i27 _ 3 24 Try.underlying22 hi27 hz27 hs27 hb27 rfl (by decide) _ rfl OE ao l.holds.length c (hocells l.holds) rfl HZ.out (hocells_length _) HA.out.news (hocells_one _) (by unfold maxLen; omega) HL1.out (by simp; omega) ?_ rfl; intro ao1 c1 w1 own1 gr1; have bl1 := (hbel.alloc (by omega) _).grown gr1 (by first | (simp; done) | (simp; omega)) (fun j hj => by have e := Option.some.inj hj; omega); obtain ⟨bc1, bf1, zc1, zf1⟩ := boxes bl1; have s1 := gr1.size; simp at s1; have y0 : w.heap.size < w1.heap.size := (by omega); have y1 : w.heap.size + 1 < w1.heap.size := (by omega); have y2 : ¬ w.heap.size = w1.heap.size := (by omega); have y3 : ¬ w.heap.size + 1 = w1.heap.size := (by omega); have NW := World.news_of_block (cs := #[.int .i64 id, .int .i64 2, .int .i64 filter]) (heap_alloc_new w1 (.cells #[.int .i64 id, .int .i64 2, .int .i64 filter] 52)))
            | (at_builtin; refine wpList_append_lies _ rfl (.tmp 44) (.tmp 49) 22 rfl (w.heap.size + 2) 52 i27 _ 3 24 Try.underlying22 hi27 hz27 hs27 hb27 rfl (by decide) _ l.holds.length (hocells l.holds) rfl (own1.alloc _) ⟨w1.heap.size, 0, none⟩ 1 1 [.int .i64 id, .int .i64 2, .int .i64 filter] rfl rfl NW (hocells_one [⟨id, 2, filter⟩]) (by decide) H63.out HR.out (by simp; omega) (w1.heap.size + 1) (by simp) ?_; intro g cap w2 own2 gr2 _ _; have bl2 := (bl1.alloc (by omega) _).grown gr2 (by first | (simp; done) | (simp; omega)) (fun j hj => (own1.lt j hj).1); obtain ⟨bc2, bf2, zc2, zf2⟩ := boxes bl2))
          refine bodyPost_ret (v := .tuple #[.agg #[.slice (some ⟨g, 0, none⟩) (l.holds.length + 1) cap, .int .i64 l.m0, .int .i64 l.m1, .int .i64 l.m2, .int .i64 l.m3], .int .i64 0]) (by simp [results, Try.results20, go_sem, zc2]) rfl ⟨_, by rw [HT.out], ?_, ?_⟩
          · rw [takeR, HT.out]
            refine ⟨some ⟨g, 0, none⟩, cap, by simp [lgV], holdsAt_of_owns (base := w.heap.size + 2) (c := cap) (n := l.holds.length + 1) ?_ (by simp) (by simpa using H63.out), fun e => (by cases e), ?_, (owns_cap own2).2.2, fresh_of_owns own2 (by omega) _⟩
            · iterate 6 (refine ownsRow_setCell_below ?_ (by simp) _)
              simp only [if_pos]
              rw [hocells_append]
              exact own2
            · simpa using (owns_cap own2).2.1
          · iterate 6 (refine Below.setCell ?_ (by simp) _)
            exact (((Below.refl _ _).alloc (Nat.le_refl _) _).alloc (by simp) _).trans (bl2.mono (by omega))
        · simp [mostOf] at hf
          go_wp2_with (first
            | (at_builtin; refine wpList_app_empty rfl (.tmp 41) (.tmp 43) 22 rfl (w.heap.size + 2) 52 i27 _ 3 24 Try.underlying22 hi27 hz27 hs27 hb27 rfl (by decide) _ rfl OE ao l.holds.length c (hocells l.holds) rfl HZ.out (hocells_length _) HA.out.news (hocells_one _) (by unfold maxLen; omega) HL1.out (by simp; omega) ?_ rfl; intro ao1 c1 w1 own1 gr1; have bl1 := (hbel.alloc (by omega) _).grown gr1 (by first | (simp; done) | (simp; omega)) (fun j hj => by have e := Option.some.inj hj; omega); obtain ⟨bc1, bf1, zc1, zf1⟩ := boxes bl1; have s1 := gr1.size; simp at s1; have y0 : w.heap.size < w1.heap.size := (by omega); have y1 : w.heap.size + 1 < w1.heap.size := (by omega); have y2 : ¬ w.heap.size = w1.heap.size := (by omega); have y3 : ¬ w.heap.size + 1 = w1.heap.size := (by omega); have NW := World.news_of_block (cs := #[.int .i64 id, .int .i64 3, .int .i64 filter]) (heap_alloc_new w1 (.cells #[.int .i64 id, .int .i64 3, .int .i64 filter] 52)))
            | (at_builtin; refine wpList_append_lies _ rfl (.tmp 44) (.tmp 49) 22 rfl (w.heap.size + 2) 52 i27 _ 3 24 Try.underlying22 hi27 hz27 hs27 hb27 rfl (by decide) _ l.holds.length (hocells l.holds) rfl (own1.alloc _) ⟨w1.heap.size, 0, none⟩ 1 1 [.int .i64 id, .int .i64 3, .int .i64 filter] rfl rfl NW (hocells_one [⟨id, 3, filter⟩]) (by decide) H63.out HR.out (by simp; omega) (w1.heap.size + 1) (by simp) ?_; intro g cap w2 own2 gr2 _ _; have bl2 := (bl1.alloc (by omega) _).grown gr2 (by first | (simp; done) | (simp; omega)) (fun j hj => (own1.lt j hj).1); obtain ⟨bc2, bf2, zc2, zf2⟩ := boxes bl2))
          refine bodyPost_ret (v := .tuple #[.agg #[.slice (some ⟨g, 0, none⟩) (l.holds.length + 1) cap, .int .i64 l.m0, .int .i64 l.m1, .int .i64 l.m2, .int .i64 l.m3], .int .i64 0]) (by simp [results, Try.results20, go_sem, zc2]) rfl ⟨_, by rw [HT.out], ?_, ?_⟩
          · rw [takeR, HT.out]
            refine ⟨some ⟨g, 0, none⟩, cap, by simp [lgV], holdsAt_of_owns (base := w.heap.size + 2) (c := cap) (n := l.holds.length + 1) ?_ (by simp) (by simpa using H63.out), fun e => (by cases e), ?_, (owns_cap own2).2.2, fresh_of_owns own2 (by omega) _⟩
            · iterate 6 (refine ownsRow_setCell_below ?_ (by simp) _)
              simp only [if_pos]
              rw [hocells_append]
              exact own2
            · simpa using (owns_cap own2).2.1
          · iterate 6 (refine Below.setCell ?_ (by simp) _)
            exact (((Below.refl _ _).alloc (Nat.le_refl _) _).alloc (by simp) _).trans (bl2.mono (by omega))

theorem rtake_any (l : Lg) (v : Value) (id kind filter : Int) (w : World) (hl : LgAt w v l) (hr : (l.holds.length + 1) * 24 ≤ 140737488355328) :
    Calls Try.prog 20 #[v, .int .i64 id, .int .i64 kind, .int .i64 filter] w fun e w' => ∃ v', e = .returned (.tuple #[v', .int .i64 (takeE l kind)]) ∧ LgNew w.heap.size w' v' (takeR l id kind filter) ∧ Below w.heap.size w w' := by
  by_cases h : kind < 1 ∨ 3 < kind
  · have e1 : takeE l kind = 1 := by unfold takeE; rw [if_pos h]
    have e2 : takeR l id kind filter = zeroLg := by unfold takeR; rw [e1]; rfl
    rw [e1, e2]
    exact rtake_kind l v id kind filter w hl h
  · exact rtake_in l v id kind filter w hl hr (by omega)
end Go.Proofs.Ytnhndieoaceofaa
