/- Giving back, by the document's own function. -/
import Derived.Test.YtnhndieoaceofaaLedP
namespace Go.Proofs.Ytnhndieoaceofaa
open Go.RowKit

set_option maxRecDepth 100000 in
set_option maxHeartbeats 2000000 in
theorem rgive_any (l : Lg) (v : Value) (id kind : Int) (w : World) (hl : LgAt w v l) (hr : l.holds.length * 24 ≤ 140737488355328) :
    Calls Try.prog 23 #[v, .int .i64 id, .int .i64 kind] w fun e w' => ∃ v', e = .returned (.tuple #[v', .int .i64 (giveE l id kind)]) ∧ LgNew w.heap.size w' v' (giveR l id kind) ∧ Below w.heap.size w w' := by
  obtain ⟨ao, c, rfl, a1, n1, n2, n3⟩ := hl
  unfold lgV
  have hsm := a1.small
  obtain ⟨i27, hi27, hz27, hs27, hb27⟩ := info_parts Try.info27
  have HR : Hid (l.holds.length * 24 ≤ 140737488355328) := hr
  clear hr n1
  unfold maxLen at hsm n3
  go_enter Try.func23, Try.ntmps23
  go_wp2
  go_loopw [14, 8] (fun i o wr => ∃ (k : Nat) (q : Int), k ≤ l.holds.length ∧ i = .int .i64 k ∧ o = .int .i64 q ∧ Below (w.heap.size + 2) ((w.alloc (.cells #[.slice ao l.holds.length c, .int .i64 l.m0, .int .i64 l.m1, .int .i64 l.m2, .int .i64 l.m3] 25)).alloc (.cells #[.slice none 0 0, .int .i64 0, .int .i64 0, .int .i64 0, .int .i64 0] 25)) wr ∧ Hid (lastI (isOf id kind) (l.holds.take k) = q)) (fun i _ _ => l.holds.length - (intOf i).toNat)
  case atStart => exact ⟨0, -1, by omega, rfl, rfl, Below.refl _ _, rfl⟩
  case round =>
    obtain ⟨k, q, hk, rfl, rfl, hbel, HM⟩ := hrel
    have bw : Below w.heap.size w wr := (((Below.refl _ _).alloc (Nat.le_refl _) _).alloc (by simp) _).trans (hbel.mono (by omega))
    have hsz := hbel.size
    simp at hsz
    by_cases hlt : k < l.holds.length
    · obtain ⟨b, off, rfl, hb, c0, c1, c2⟩ := a1.lies k hlt
      have hlt' : (k : Int) < (l.holds.length : Int) := by omega
      have eb := fun j => bw.cell (p := ⟨b, j, none⟩) hb
      rw [← eb] at c0 c1 c2
      have HS : Hid (lastI (isOf id kind) (l.holds.take (k + 1)) = if isOf id kind l.holds[k] = true then (k : Int) else q) := by
        show _ = _
        rw [List.take_add_one, List.getElem?_eq_getElem hlt]
        show lastI _ (l.holds.take k ++ [l.holds[k]]) = _
        rw [lastI_snoc, HM.out, List.length_take, Nat.min_eq_left (by omega)]
      clear eb
      cases e : (l.holds[k].id == id) with
      | false =>
        go_wp2
        go_roundw
        case rel => exact ⟨k + 1, q, by omega, by go_num, rfl, hbel.alloc (by omega) _, by show _ = _; rw [HS.out, isOf, e]; rfl⟩
        case measure => simp [intOf]; omega
      | true =>
        cases e2 : (l.holds[k].kind == kind) with
        | false =>
          go_wp2
          go_roundw
          case rel => exact ⟨k + 1, q, by omega, by go_num, rfl, hbel.alloc (by omega) _, by show _ = _; rw [HS.out, isOf, e, e2]; rfl⟩
          case measure => simp [intOf]; omega
        | true =>
          go_wp2
          go_roundw
          case rel => exact ⟨k + 1, (k : Int), by omega, by go_num, rfl, hbel.alloc (by omega) _, by show _ = _; rw [HS.out, isOf, e, e2]; rfl⟩
          case measure => simp [intOf]; omega
    · have HM2 : Hid (lastI (isOf id kind) l.holds = q) := by
        have := HM.out
        rw [List.take_of_length_le (by omega)] at this
        exact this
      obtain ⟨bc, bf, zc, zf⟩ := boxes hbel
      have HB : Hid (Below w.heap.size w wr) := bw
      clear bw HM
      rcases lastI_lt (isOf id kind) l.holds with hq | hq
      · have hq' : q = -1 := by rw [← HM2.out]; exact hq
        subst hq'
        clear hq
        have HT : Hid (giveE l id kind = 6) := by show _ = _; unfold giveE; rw [HM2.out]; rfl
        go_wp2
        refine bodyPost_ret (v := .tuple #[.agg #[.slice none 0 0, .int .i64 0, .int .i64 0, .int .i64 0, .int .i64 0], .int .i64 6]) (by simp [results, Try.results23, go_sem, zc]) rfl ⟨_, by rw [HT.out], ?_, ?_⟩
        · rw [giveR, HM2.out]; exact zeroAt _ _
        · iterate 5 (refine Below.setCell ?_ (by simp) _)
          exact HB.out
      · rw [HM2.out] at hq
        obtain ⟨t, rfl⟩ : ∃ t : Nat, q = (t : Int) := ⟨q.toNat, by omega⟩
        have ht : t < l.holds.length := by omega
        clear hq
        have HT : Hid (giveE l id kind = 0) := by show _ = _; unfold giveE; rw [HM2.out, if_neg (by omega)]
        have t0 : ¬ (t : Int) < 0 := by omega
        obtain ⟨b, off, rfl, hb, _, _, _⟩ := a1.lies t ht
        have A1 := a1.below (Nat.le_refl _) HB.out
        have A2 := A1.below (Nat.le_refl _) (((Below.refl wr.heap.size wr).alloc (Nat.le_refl _) (.cells #[] 52)).drew)
        have HA : Hid (HoldsAt ((wr.alloc (.cells #[] 52)).drew) (some ⟨b, off, none⟩) l.holds) := A2
        have OE : ((wr.alloc (.cells #[] 52)).drew).ownsRow (w.heap.size + 2) 52 3 (.slice (some ⟨wr.heap.size, 0, none⟩) 0 0) 0 [] := (World.ownsRow_lit (base := w.heap.size + 2) (e := 52) (size := 3) wr #[] 0 (by omega) (by unfold maxLen; omega) rfl).drew
        clear A1 A2
        have HL1 : Hid (t * 24 ≤ 140737488355328) := by have := HR.out; show _ ≤ _; omega
        have HL2 : Hid (t ≤ maxLen) := by show _ ≤ _; unfold maxLen; omega
        have HL3 : Hid ((hocells (l.holds.take t)).length = t * 3) := by show _ = _; rw [hocells_length, List.length_take, Nat.min_eq_left (by omega)]
        have HL4 : Hid ((hocells (l.holds.drop (t + 1))).length = (l.holds.length - (t + 1)) * 3) := by show _ = _; rw [hocells_length, List.length_drop]
        have HLL : Hid ((l.holds.take t ++ l.holds.drop (t + 1)).length = l.holds.length - 1) := by show _ = _; rw [List.length_append, List.length_take, List.length_drop]; omega
        have HL5 : Hid (l.holds.length - 1 ≤ maxLen) := by show _ ≤ _; unfold maxLen; omega
        have HL6 : Hid ((l.holds.length - 1) * 24 ≤ 140737488355328) := by have := HR.out; show _ ≤ _; omega
        have x0 : w.heap.size < wr.heap.size := by omega
        have x1 : w.heap.size + 1 < wr.heap.size := by omega
        have x2 : ¬ w.heap.size = wr.heap.size := by omega
        have x3 : ¬ w.heap.size + 1 = wr.heap.size := by omega
        have tc : (t : Int) ≤ (c : Int) := by omega
        have tl : (t : Int) + 1 ≤ (l.holds.length : Int) := by omega
        have hwp : IntKind.i64.wrap ((t : Int) + 1) = (t : Int) + 1 := wrap_id (by omega) (by omega)
        have tp : (0 : Int) ≤ (t : Int) + 1 := by omega
        go_wp2_with fail
        go_region_law (first
          | (refine step_app rfl (.tmp 34) (.tmp 38) 22 rfl (w.heap.size + 2) 52 i27 _ 3 24 Try.underlying22 hi27 hz27 hs27 hb27 rfl (by decide) (some ⟨wr.heap.size, 0, none⟩) 0 0 [] rfl OE (some ⟨b, off, none⟩) t c (hocells (l.holds.take t)) rfl (fun e => by cases e) HL3.out (HA.out.take t).news (hocells_one _) t (by omega) HL2.out HL1.out (by simp; omega) ?_; intro ao1 c1 w1 own1 gr1; have bl1 := ((hbel.alloc (by omega) _).drew).grown gr1 (by first | (simp; done) | (simp; omega)) (fun j hj => by have e : wr.heap.size = j := Option.some.inj hj; omega); obtain ⟨bc1, bf1, zc1, zf1⟩ := boxes bl1; have s1 := gr1.size; simp at s1; have y0 : w.heap.size < w1.heap.size := (by omega); have y1 : w.heap.size + 1 < w1.heap.size := (by omega); have HA1 : HoldsAt w1 (some ⟨b, off, none⟩) l.holds := (a1.below (Nat.le_refl _) (((((Below.refl w.heap.size w).alloc (Nat.le_refl _) _).alloc (by simp) _)).trans (bl1.mono (by omega)))))
          | (refine step_app rfl (.tmp 39) (.tmp 44) 22 rfl (w.heap.size + 2) 52 i27 _ 3 24 Try.underlying22 hi27 hz27 hs27 hb27 rfl (by decide) ao1 t c1 (hocells (l.holds.take t)) rfl own1 (if c = t + 1 then some ⟨b, off, none⟩ else some ⟨b, off + (t + 1) * 3, none⟩) (l.holds.length - (t + 1)) (c - (t + 1)) (hocells (l.holds.drop (t + 1))) rfl (by intro e; split at e <;> cases e) HL4.out (tailAt HA1 n2 ht).news (hocells_one _) (l.holds.length - 1) (by omega) HL5.out HL6.out (by omega) ?_; intro ao2 c2 w2 own2 gr2; have bl2 := bl1.grown gr2 (by omega) (fun j hj => (own1.lt j hj).1); obtain ⟨bc2, bf2, zc2, zf2⟩ := boxes bl2))
        all_goals
          go_wp2
          all_goals
            refine bodyPost_ret (v := .tuple #[.agg #[.slice ao2 (l.holds.length - 1) c2, .int .i64 l.m0, .int .i64 l.m1, .int .i64 l.m2, .int .i64 l.m3], .int .i64 0]) (by simp [results, Try.results23, go_sem, zc2]) rfl ⟨_, by rw [HT.out], ?_, ?_⟩
            · rw [giveR, HM2.out, if_neg (by omega), Int.toNat_natCast]
              refine ⟨ao2, c2, by simp only [lgV, HLL.out], holdsAt_of_owns (base := w.heap.size + 2) (c := c2) (n := l.holds.length - 1) ?_ HLL.out (by show (l.holds.take t ++ l.holds.drop (t + 1)).length ≤ _; rw [HLL.out]; exact HL5.out), (owns_cap own2).1, ?_, (owns_cap own2).2.2, fresh_of_owns own2 (by omega) _⟩
              · iterate 6 (refine ownsRow_setCell_below ?_ (by simp) _)
                show World.ownsRow _ _ _ _ _ _ (hocells (l.holds.take t ++ l.holds.drop (t + 1)))
                rw [hocells_append]
                exact own2
              · show (l.holds.take t ++ l.holds.drop (t + 1)).length ≤ _
                rw [HLL.out]
                exact (owns_cap own2).2.1
            · iterate 6 (refine Below.setCell ?_ (by simp) _)
              exact (((Below.refl _ _).alloc (Nat.le_refl _) _).alloc (by simp) _).trans (bl2.mono (by omega))
end Go.Proofs.Ytnhndieoaceofaa
