/- What package ledger's functions come to: Give; all of them together. -/
import Derived.Test.YtnhndieoaceofaaLedL
import Derived.Test.YtnhndieoaceofaaLedO
namespace Go.Proofs.Ytnhndieoaceofaa
open Go.RowKit

theorem holdsAt_of_cells {w : World} {g off : Nat} {hs : List Ho} (hg : g < w.heap.size) (h : ∀ j u, (hocells hs)[j]? = some u → w.cell? ⟨g, off + j, none⟩ = some u) (hsm : hs.length ≤ maxLen) : HoldsAt w (some ⟨g, off, none⟩) hs where
  lies i hi := by
    have hh := hocells_at hs i hi
    exact ⟨g, off, rfl, hg, h _ _ hh.1, h _ _ hh.2.1, h _ _ hh.2.2⟩
  small := hsm
theorem HoldsAt.set1 {w : World} {g off : Nat} {hs : List Ho} (h : HoldsAt w (some ⟨g, off, none⟩) hs) {p : Addr} (hp : p.block < g) (u : Value) : HoldsAt (w.setCell p u) (some ⟨g, off, none⟩) hs where
  lies i hi := by
    obtain ⟨k, o, h1, h2, h3, h4, h5⟩ := h.lies i hi
    have hk : k = g := by simp at h1; exact h1.1.symm
    subst hk
    have e : ∀ j, (w.setCell p u).cell? ⟨k, j, none⟩ = w.cell? ⟨k, j, none⟩ := fun j => World.cell?_of_block (w := w) (a := ⟨k, j, none⟩) (Below.heap_setCell w p u k (by omega))
    exact ⟨k, o, h1, by simpa using h2, by rw [e]; exact h3, by rw [e]; exact h4, by rw [e]; exact h5⟩
  small := h.small

theorem delete_any (hs : List Ho) (g cap t base : Nat) (w : World) (h : w.ownsRow base 52 3 (.slice (some ⟨g, 0, none⟩) hs.length cap) hs.length (hocells hs)) (ht : t < hs.length) :
    Calls Try.prog 31 #[.slice (some ⟨g, 0, none⟩) hs.length cap, .int .i64 t, .int .i64 ((t : Int) + 1)] w fun e w' => e = .returned (.slice (some ⟨g, 0, none⟩) (hs.length - 1) cap) ∧ HoldsAt w' (some ⟨g, 0, none⟩) (hs.take t ++ hs.drop (t + 1)) ∧ Below g w w' := by
  have hc0 := h.cells (g := g) rfl
  have hcell : ∀ j u, (hocells hs)[j]? = some u → w.cell? ⟨g, 0 + j, none⟩ = some u := fun j u hu => by rw [← add_none]; exact hc0 j u hu
  have hg := (h.lt g rfl).2
  have hcap := owns_cap h
  refine (delete_at hs g 0 cap t w hcell (fun j => h.frozenAt (0 + j)) hcap.2.1 hcap.2.2 ht).mono ?_
  rintro e w' ⟨rfl, rfl⟩
  have eN : t + (hs.length - (t + 1)) = hs.length - 1 := by omega
  rw [eN]
  have bl : Below g w ((w.drew.setCells g (0 + t * 3) (hocells (hs.drop (t + 1)))).setCells g (0 + (hs.length - 1) * 3) [.int .i64 0, .int .i64 0, .int .i64 0]) := below_setCells (Nat.le_refl _) _ _ _ _ (below_setCells (Nat.le_refl _) _ _ _ _ (Below.refl _ _).drew)
  have hl1 : (hocells (hs.take t)).length = t * 3 := by rw [hocells_length, List.length_take, Nat.min_eq_left (by omega)]
  have hl2 : (hocells (hs.drop (t + 1))).length = (hs.length - (t + 1)) * 3 := by rw [hocells_length, List.length_drop]
  have esp : hocells hs = hocells (hs.take t) ++ hocells (hs.drop t) := by rw [← hocells_append, List.take_append_drop]
  refine ⟨rfl, holdsAt_of_cells (Nat.lt_of_lt_of_le hg bl.size) (fun j u hu => ?_) ?_, bl⟩
  · rw [hocells_append] at hu
    have hj : j < (hs.length - 1) * 3 := by
      have h := (List.getElem?_eq_some_iff.1 hu).1
      rw [List.length_append, hl1, hl2] at h
      omega
    rw [World.cell?_setCells_out g _ _ _ _ (fun _ _ => .inl (by show 0 + j < 0 + (hs.length - 1) * 3; omega))]
    by_cases hjt : j < t * 3
    · rw [World.cell?_setCells_out g _ _ _ _ (fun _ _ => .inl (by show 0 + j < 0 + t * 3; omega))]
      refine hcell j u ?_
      rw [esp, List.getElem?_append_left (by omega)]
      rw [List.getElem?_append_left (by omega)] at hu
      exact hu
    · rw [List.getElem?_append_right (by omega), hl1] at hu
      obtain ⟨hk, hku⟩ := List.getElem?_eq_some_iff.1 hu
      have hin := World.cell?_setCells_in g (hocells (hs.drop (t + 1))) (0 + t * 3) w.drew (fun i hi => by
        have hi' : t * 3 + i < (hocells hs).length := by rw [hocells_length]; rw [hl2] at hi; omega
        show (w.cell? _).isSome = true
        rw [Nat.add_assoc, hcell (t * 3 + i) _ (List.getElem?_eq_getElem hi')]
        rfl) (j - t * 3) hk
      rw [show 0 + t * 3 + (j - t * 3) = 0 + j by omega, hku] at hin
      exact hin
  · rw [List.length_append, List.length_take, List.length_drop]
    have := hcap.2.1
    have := hcap.2.2
    omega

set_option maxRecDepth 100000 in
set_option maxHeartbeats 2000000 in
theorem give_any (l : Lg) (v : Value) (id kind : Int) (w : World) (hl : LgAt w v l) (hr : l.holds.length * 24 ≤ 140737488355328) :
    Calls Try.prog 21 #[v, .int .i64 id, .int .i64 kind] w fun e w' => ∃ v', e = .returned (.tuple #[v', .int .i64 (giveE l id kind)]) ∧ LgNew w.heap.size w' v' (giveR l id kind) ∧ Below w.heap.size w w' := by
  obtain ⟨ao, c, rfl⟩ := lgAt_form hl
  have hsm : l.holds.length ≤ maxLen := by obtain ⟨_, _, _, h, _⟩ := hl; exact h.small
  have HSM : Hid (l.holds.length ≤ maxLen) := hsm
  unfold maxLen at hsm
  obtain ⟨W4, hW4⟩ : ∃ W4, (((w.alloc (.cells #[.slice ao l.holds.length c, .int .i64 l.m0, .int .i64 l.m1, .int .i64 l.m2, .int .i64 l.m3] 25)).alloc (.cells #[.int .i64 id] 3)).alloc (.cells #[.int .i64 kind] 3)).alloc (.cells #[.slice none 0 0, .int .i64 0, .int .i64 0, .int .i64 0, .int .i64 0] 25) = W4 := ⟨_, rfl⟩
  have hbel : Below w.heap.size w W4 := by rw [← hW4]; exact ((((Below.refl _ _).alloc (Nat.le_refl _) _).alloc (by simp) _).alloc (by simp; omega) _).alloc (by simp; omega) _
  have hsz : W4.heap.size = w.heap.size + 4 := by rw [← hW4]; simp
  have HLG : Hid (LgAt W4 (lgV l ao c) l) := hl.below (Nat.le_refl _) hbel
  have HBX : Hid (Box5 W4 w.heap.size (.slice ao l.holds.length c) (.int .i64 l.m0) (.int .i64 l.m1) (.int .i64 l.m2) (.int .i64 l.m3)) := by
    refine ⟨?_, ?_, ?_, ?_, ?_, fun j => ?_, by rw [hsz]; omega⟩ <;> rw [← hW4] <;> simp [go_sem]
  have HZX : Hid (Box5 W4 (w.heap.size + 3) (.slice none 0 0) (.int .i64 0) (.int .i64 0) (.int .i64 0) (.int .i64 0)) := by
    refine ⟨?_, ?_, ?_, ?_, ?_, fun j => ?_, by rw [hsz]; omega⟩ <;> rw [← hW4] <;> simp [go_sem]
  have HT : Hid (Tells 30 #[.pointer (some ⟨w.heap.size + 1, 0, none⟩), .pointer (some ⟨w.heap.size + 2, 0, none⟩)] (isOf id kind) W4) := tells_give (by rw [← hW4]; simp [go_sem]) (by rw [hsz]; omega) (by rw [← hW4]; simp [go_sem]) (by rw [hsz]; omega)
  have HA : Hid (HoldsAt W4 ao l.holds) := HLG.out.holds.1
  have HR : Hid (l.holds.length * 24 ≤ 140737488355328) := hr
  have HB : Hid (Below w.heap.size w W4) := hbel
  have HW : Hid ((((w.alloc (.cells #[.slice ao l.holds.length c, .int .i64 l.m0, .int .i64 l.m1, .int .i64 l.m2, .int .i64 l.m3] 25)).alloc (.cells #[.int .i64 id] 3)).alloc (.cells #[.int .i64 kind] 3)).alloc (.cells #[.slice none 0 0, .int .i64 0, .int .i64 0, .int .i64 0, .int .i64 0] 25) = W4) := hW4
  have HZ : Hid (W4.heap.size = w.heap.size + 4) := hsz
  clear hr hW4 hsz hbel hl
  unfold lgV
  go_enter Try.func21, Try.ntmps21
  go_wp2_with fail
  rw [HW.out]
  refine (place_any (isOf id kind) 30 #[.pointer (some ⟨w.heap.size + 1, 0, none⟩), .pointer (some ⟨w.heap.size + 2, 0, none⟩)] enters19 l.holds ao c W4 HT.out HA.out).mono ?_
  rintro e w1 ⟨rfl, bl1⟩
  have bs1 := bl1.size
  rw [HZ.out] at bs1
  have HLG1 : Hid (LgAt w1 (lgV l ao c) l) := HLG.out.below (Nat.le_refl _) bl1
  have HBX1 : Hid (Box5 w1 w.heap.size (.slice ao l.holds.length c) (.int .i64 l.m0) (.int .i64 l.m1) (.int .i64 l.m2) (.int .i64 l.m3)) := HBX.out.keep bl1
  have HZX1 : Hid (Box5 w1 (w.heap.size + 3) (.slice none 0 0) (.int .i64 0) (.int .i64 0) (.int .i64 0) (.int .i64 0)) := HZX.out.keep bl1
  have HB1 : Hid (Below w.heap.size w w1) := HB.out.trans (bl1.mono HB.out.size)
  have HS1 : Hid (w.heap.size + 4 ≤ w1.heap.size) := bs1
  clear bl1 bs1 HLG HBX HZX HT HA HB HW HZ
  rcases lastI_lt (isOf id kind) l.holds with hq | hq
  · have HE : Hid (giveE l id kind = 6) := by show _ = _; unfold giveE; rw [hq]; rfl
    have HG : Hid (giveR l id kind = zeroLg) := by show _ = _; unfold giveR; rw [hq]; rfl
    rw [hq]
    clear hq
    obtain ⟨z0, z1, z2, z3, z4, zf, zl⟩ := HZX1.out
    go_wp2
    refine bodyPost_ret (v := .tuple #[.agg #[.slice none 0 0, .int .i64 0, .int .i64 0, .int .i64 0, .int .i64 0], .int .i64 6]) (by simp [results, Try.results21, go_sem, z0, z1, z2, z3, z4]) rfl ⟨_, by rw [HE.out], ?_, ?_⟩
    · rw [HG.out]; exact zeroAt _ _
    · iterate 5 (refine Below.setCell ?_ (by simp; try omega) _)
      exact HB1.out
  · obtain ⟨t, htq⟩ : ∃ t : Nat, lastI (isOf id kind) l.holds = (t : Int) := ⟨(lastI (isOf id kind) l.holds).toNat, by omega⟩
    have ht : t < l.holds.length := by omega
    have HE : Hid (giveE l id kind = 0) := by show _ = _; unfold giveE; rw [htq, if_neg (by omega)]
    have HG : Hid (giveR l id kind = { l with holds := l.holds.take t ++ l.holds.drop (t + 1) }) := by show _ = _; unfold giveR; rw [htq, if_neg (by omega), Int.toNat_natCast]
    rw [htq]
    clear hq htq
    have t0 : ¬ (t : Int) < 0 := by omega
    have hwp : IntKind.i64.wrap ((t : Int) + 1) = (t : Int) + 1 := wrap_id (by omega) (by omega)
    obtain ⟨b0, b1, b2, b3, b4, bf, blt⟩ := HBX1.out
    go_wp2_with fail
    refine (own_owns l (lgV l ao c) w1 HLG1.out HR.out).mono ?_
    rintro e w2 ⟨ao2, c2, rfl, own2, bl2⟩
    clear b0 b1 b2 b3 b4 bf blt
    obtain ⟨g, rfl⟩ : ∃ g, ao2 = some ⟨g, 0, none⟩ := by
      rcases own2.2 with ⟨_, h0⟩ | ⟨g, cap, cur, hv, _⟩
      · omega
      · simp at hv; exact ⟨g, hv.1⟩
    have hgb := (own2.lt g rfl).1
    have s1 := HS1.out
    have HX2 : Hid (Box5 w2 w.heap.size (.slice ao l.holds.length c) (.int .i64 l.m0) (.int .i64 l.m1) (.int .i64 l.m2) (.int .i64 l.m3)) := HBX1.out.keep bl2
    have HZX2 : Hid (Box5 w2 (w.heap.size + 3) (.slice none 0 0) (.int .i64 0) (.int .i64 0) (.int .i64 0) (.int .i64 0)) := HZX1.out.keep bl2
    have HB2 : Hid (Below w.heap.size w w2) := HB1.out.trans (bl2.mono HB1.out.size)
    have HO2 : Hid ((set5 w2 w.heap.size l (some ⟨g, 0, none⟩) c2).ownsRow w1.heap.size 52 3 (.slice (some ⟨g, 0, none⟩) l.holds.length c2) l.holds.length (hocells l.holds)) := set5_owns (own2.mono (by omega)) (by omega)
    clear bl2 own2
    obtain ⟨b0, b1, b2, b3, b4, bf, blt⟩ := HX2.out
    unfold lgV
    go_wp2_with fail
    refine (delete_any l.holds g c2 t w1.heap.size (set5 w2 w.heap.size l (some ⟨g, 0, none⟩) c2) HO2.out ht).mono ?_
    rintro e w3 ⟨rfl, HH, bl3⟩
    have HB3 : Hid (Below w.heap.size w w3) := (set5_below HB2.out (Nat.le_refl _)).trans (bl3.mono (by omega))
    have s3 := bl3.size
    rw [set5_size] at s3
    obtain ⟨z0, z1, z2, z3, z4, zf, zlt⟩ := HZX2.out
    have k := fun j => bl3.cell (p := ⟨w.heap.size, j, none⟩) (by show w.heap.size < g; omega)
    have k0 : w3.cell? ⟨w.heap.size, 0, none⟩ = some (.slice (some ⟨g, 0, none⟩) l.holds.length c2) := by rw [k]; unfold set5; simp [go_sem, b0]
    have k1 : w3.cell? ⟨w.heap.size, 1, none⟩ = some (.int .i64 l.m0) := by rw [k]; unfold set5; simp [go_sem, b1]
    have k2 : w3.cell? ⟨w.heap.size, 2, none⟩ = some (.int .i64 l.m1) := by rw [k]; unfold set5; simp [go_sem, b2]
    have k3 : w3.cell? ⟨w.heap.size, 3, none⟩ = some (.int .i64 l.m2) := by rw [k]; unfold set5; simp [go_sem, b3]
    have k4 : w3.cell? ⟨w.heap.size, 4, none⟩ = some (.int .i64 l.m3) := by rw [k]; unfold set5; simp [go_sem, b4]
    have kf : ∀ j, w3.frozen? ⟨w.heap.size, j, none⟩ = false := fun j => by rw [bl3.frozen (p := ⟨w.heap.size, j, none⟩) (by show w.heap.size < g; omega), set5_frozen]; exact bf j
    have q : ∀ j, w3.cell? ⟨w.heap.size + 3, j, none⟩ = w2.cell? ⟨w.heap.size + 3, j, none⟩ := fun j => (bl3.cell (p := ⟨w.heap.size + 3, j, none⟩) (by show w.heap.size + 3 < g; omega)).trans (set5_far (by omega))
    have q0 := (q 0).trans z0
    have q1 := (q 1).trans z1
    have q2 := (q 2).trans z2
    have q3 := (q 3).trans z3
    have q4 := (q 4).trans z4
    have qf : ∀ j, w3.frozen? ⟨w.heap.size + 3, j, none⟩ = false := fun j => by rw [bl3.frozen (p := ⟨w.heap.size + 3, j, none⟩) (by show w.heap.size + 3 < g; omega), set5_frozen]; exact zf j
    have HHH : Hid (HoldsAt w3 (some ⟨g, 0, none⟩) (l.holds.take t ++ l.holds.drop (t + 1))) := HH
    have HLL : Hid ((l.holds.take t ++ l.holds.drop (t + 1)).length = l.holds.length - 1) := by show _ = _; rw [List.length_append, List.length_take, List.length_drop]; omega
    have HCP : Hid (l.holds.length ≤ c2 ∧ c2 ≤ maxLen) := (owns_cap HO2.out).2
    have hg3 : w.heap.size + 3 < g := by omega
    clear HH bl3 k q b0 b1 b2 b3 b4 bf blt z0 z1 z2 z3 z4 zf zlt
    go_wp2
    refine bodyPost_ret (v := .tuple #[.agg #[.slice (some ⟨g, 0, none⟩) (l.holds.length - 1) c2, .int .i64 l.m0, .int .i64 l.m1, .int .i64 l.m2, .int .i64 l.m3], .int .i64 0]) (by simp [results, Try.results21, go_sem, q0, q1, q2, q3, q4]) rfl ⟨_, by rw [HE.out], ?_, ?_⟩
    · rw [HG.out]
      refine ⟨some ⟨g, 0, none⟩, c2, by simp only [lgV, HLL.out], ?_, fun e => (by cases e), ?_, HCP.out.2, fun b off _ e => ?_⟩
      · iterate 6 (refine HoldsAt.set1 ?_ (by simp; omega) _)
        exact HHH.out
      · show (l.holds.take t ++ l.holds.drop (t + 1)).length ≤ c2
        rw [HLL.out]
        have := HCP.out.1
        omega
      · simp at e
        omega
    · iterate 6 (refine Below.setCell ?_ (by simp; try omega) _)
      exact HB3.out

end Go.Proofs.Ytnhndieoaceofaa
