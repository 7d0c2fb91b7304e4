/- The law PoolTurn. -/
import Derived.Test.YtnhndieoaceofaaPoolL
import Derived.OneCell
import Derived.Deep.RegionWith
import Derived.Deep.RegionLaw
namespace Go.Proofs.Ytnhndieoaceofaa
open Go.RowKit

/-- A piece of code that ends at its end alone, and there so. -/
def onlyN (G : Act → World → Prop) : Exit → Act → World → Prop
  | .normal, a, w => G a w
  | _, _, _ => False
theorem wp_cut {P : Program} {c : Code} {Q : Exit → Act → World → Prop} {a : Act} {w : World} (G : Act → Act → World → Prop) (h1 : c.wp P (onlyN (G a)) a w) (h2 : ∀ a' w', G a a' w' → Q .normal a' w') : c.wp P Q a w :=
  Code.wp_mono (fun e a' w' h => by cases e <;> first | exact h2 _ _ h | exact (h : False).elim) h1
theorem TurnAt.far9 {w wr : World} {b hc X : Nat} {W : Wd} {A : Ad} {ha : Option Addr} {hv : List Int} {v0 v1 v2 v3 v4 v5 v6 v7 v8 : Value} (h : TurnAt w wr b W A ha hc hv) (hb : b ≠ X) (ho : Off W A X) (hr : (Value.slice ha hv.length hc).ownBlock ≠ some X) (hx : w.heap.size ≤ X) : TurnAt w (set9 wr X v0 v1 v2 v3 v4 v5 v6 v7 v8) b W A ha hc hv := by
  refine ⟨⟨⟨Box9.far h.lp.ib.bx hb _ _ _ _ _ _ _ _ _, Wd.far9 h.lp.ib.ld ho⟩, set9_below h.lp.bl hx, h.lp.lt, h.lp.o⟩, ?_, h.oh⟩
  unfold set9
  iterate 9 (refine ownsRow_setCell_other ?_ hr _)
  exact h.ow
/-- Behind a lease that was given: the world as it was, in its box, and the new one in another. -/
structure XAt (w wr w4 : World) (b g hd p : Nat) (W : Wd) (B : Ad) (hv : List Int) (N : Wd) (C : Ad) : Prop where
  t : TurnAt w w4 b W B (some ⟨g, 0, none⟩) hd hv
  bx : WBox w4 p N C
  ld : WdLies w4 N C
  o : ∀ X, X < wr.heap.size → Off N C X
  le : wr.heap.size ≤ p
  sz : wr.heap.size ≤ w4.heap.size
/-- What is known of who has a lease, and who is next. -/
structure Gd (m k n : Nat) (hv : List Int) : Prop where
  nd : hv.Nodup
  lt : ∀ x ∈ hv, 0 ≤ x ∧ x < (n : Int)
  len : hv.length ≤ m
  le : m ≤ n
  mx : n ≤ m ∨ n ≤ k
theorem upto_nodup (a b : Nat) : (upto a b).Nodup := by
  unfold upto List.Nodup
  rw [List.pairwise_map]
  exact (List.nodup_range' (step := 1)).imp (fun h e => h (by omega))
theorem gd_start (m k : Nat) : Gd m k m (upto 0 (min k m)) where
  nd := upto_nodup _ _
  lt x hx := by
    obtain ⟨n, _, h2, rfl⟩ := (upto_mem _ _ _).1 hx
    omega
  len := by rw [upto_length]; omega
  le := Nat.le_refl _
  mx := .inl (Nat.le_refl _)
theorem Gd.drop {m k n : Nat} {hv : List Int} (h : Gd m k n hv) (t : Nat) : Gd m k n (hv.take t ++ hv.drop (t + 1)) where
  nd := by rw [← List.eraseIdx_eq_take_drop_succ]; exact h.nd.eraseIdx t
  lt x hx := h.lt x (by
    rcases List.mem_append.1 hx with h1 | h1
    · exact List.mem_of_mem_take h1
    · exact List.mem_of_mem_drop h1)
  len := by
    have := h.len
    rw [List.length_append, List.length_take, List.length_drop]
    omega
  le := h.le
  mx := h.mx
theorem Gd.next {m k n : Nat} {hv : List Int} (h : Gd m k n hv) (t : Nat) (ht : t < hv.length) (hn : n < k) : Gd m k (n + 1) (hv.take t ++ hv.drop (t + 1) ++ [(n : Int)]) where
  nd := by
    have d := h.drop t
    refine List.nodup_append.2 ⟨d.nd, by simp, fun a ha b hb => ?_⟩
    have := d.lt a ha
    simp at hb
    omega
  lt x hx := by
    rcases List.mem_append.1 hx with h1 | h1
    · have := (h.drop t).lt x h1; omega
    · simp at h1; omega
  len := by
    have := h.len
    rw [List.length_append, List.length_append, List.length_take, List.length_drop]
    simp
    omega
  le := by have := h.le; omega
  mx := .inr hn

theorem IntsAt.take {w : World} {ao : Option Addr} {hs : List Int} (h : IntsAt w ao hs) (k : Nat) : IntsAt w ao (hs.take k) where
  lies i hi := by
    have hi' : i < hs.length := by simp at hi; omega
    obtain ⟨b, off, h1, h2, h3⟩ := h.lies i hi'
    exact ⟨b, off, h1, h2, by simpa using h3⟩
  small := by have := h.small; simp; omega
theorem tailI {w : World} {g c t : Nat} {hs : List Int} (h : IntsAt w (some ⟨g, 0, none⟩) hs) (hc : hs.length ≤ c) (ht : t < hs.length) : IntsAt w (if c = t + 1 then some ⟨g, 0, none⟩ else some ⟨g, t + 1, none⟩) (hs.drop (t + 1)) := by
  split
  · have e : hs.drop (t + 1) = [] := List.drop_eq_nil_of_le (by omega)
    rw [e]
    exact ints_nil _ _
  · refine ⟨fun i hi => ?_, by have := h.small; simp; omega⟩
    have hi' : t + 1 + i < hs.length := by simp at hi; omega
    obtain ⟨b, off, h1, h2, h3⟩ := h.lies (t + 1 + i) hi'
    simp at h1
    obtain ⟨rfl, rfl⟩ := h1
    exact ⟨g, t + 1, rfl, h2, by simpa using h3⟩
theorem back_cases {m k n : Nat} {hv : List Int} (h : Gd m k n hv) {t : Nat} (ht : t < hv.length) : (n < k ∧ backN (stW m hv (upto n k)) hv[t] = n ∧ backR (stW m hv (upto n k)) hv[t] = stW m (hv.take t ++ hv.drop (t + 1) ++ [(n : Int)]) (upto (n + 1) k)) ∨ (k ≤ n ∧ backN (stW m hv (upto n k)) hv[t] = -1 ∧ backR (stW m hv (upto n k)) hv[t] = stW m (hv.take t ++ hv.drop (t + 1)) (upto n k)) := by
  by_cases hn : n < k
  · rw [upto_cons hn]
    have := h.len
    exact .inl ⟨hn, back_st_next m hv n (upto (n + 1) k) t ht h.nd (by omega)⟩
  · rw [upto_none (by omega : k ≤ n)]
    exact .inr ⟨by omega, back_st_none m hv t ht h.nd⟩
theorem back_len {m k n : Nat} {hv : List Int} (h : Gd m k n hv) {t : Nat} (ht : t < hv.length) : ¬ (m : Int) < ((backR (stW m hv (upto n k)) hv[t]).lg.holds.length : Int) := by
  have hl := h.len
  rcases back_cases h ht with ⟨_, _, e⟩ | ⟨_, _, e⟩
  · rw [e]
    show ¬ (m : Int) < (((hv.take t ++ hv.drop (t + 1) ++ [(n : Int)]).map leaseH).length : Int)
    rw [List.length_map, List.length_append, List.length_append, List.length_take, List.length_drop]
    simp
    omega
  · rw [e]
    show ¬ (m : Int) < (((hv.take t ++ hv.drop (t + 1)).map leaseH).length : Int)
    rw [List.length_map, List.length_append, List.length_take, List.length_drop]
    omega

set_option maxRecDepth 100000 in
set_option maxHeartbeats 8000000 in
theorem pturn_any (most asks : Int) (xs : List Int) (io : Option Addr) (ic : Nat) (w : World) (hi : IntsAt w io xs) :
    Calls Try.prog 4 #[.int .i64 most, .int .i64 asks, .slice io xs.length ic] w fun e w' => e = .returned (.bool true) ∧ Below w.heap.size w w' := by
  have HIn : Hid (IntsAt w io xs) := hi
  have hsm := hi.small
  unfold maxLen at hsm
  clear hi
  obtain ⟨i3, hi3, hz3, hs3, hb3⟩ := info_parts Try.info3
  go_enter Try.func4, Try.ntmps4
  go_wp2_with fail
  refine (alive_any _).mono ?_
  rintro e w1 ⟨rfl, b1⟩
  have HB1 : Hid (Below w.heap.size w w1) := b1
  clear b1
  by_cases c0 : most < 1
  · have d0 : decide (most < 1) = true := decide_eq_true c0
    go_wp2
    go_ret
    exact ⟨rfl, HB1.out⟩
  have d0 : decide (most < 1) = false := decide_eq_false c0
  by_cases c1 : 8 < most
  · have d1 : decide (8 < most) = true := decide_eq_true c1
    go_wp2
    go_ret
    exact ⟨rfl, HB1.out⟩
  have d1 : decide (8 < most) = false := decide_eq_false c1
  by_cases c2 : asks < 0
  · have d2 : decide (asks < 0) = true := decide_eq_true c2
    go_wp2
    go_ret
    exact ⟨rfl, HB1.out⟩
  have d2 : decide (asks < 0) = false := decide_eq_false c2
  by_cases c3 : 40 < asks
  · have d3 : decide (40 < asks) = true := decide_eq_true c3
    go_wp2
    go_ret
    exact ⟨rfl, HB1.out⟩
  have d3 : decide (40 < asks) = false := decide_eq_false c3
  obtain ⟨m, rfl⟩ : ∃ m : Nat, most = m := ⟨most.toNat, by omega⟩
  obtain ⟨a, rfl⟩ : ∃ a : Nat, asks = a := ⟨asks.toNat, by omega⟩
  have HM : Hid (1 ≤ m ∧ m ≤ 8 ∧ a ≤ 40) := ⟨by omega, by omega, by omega⟩
  go_wp2_with fail
  refine (world_any m _).mono ?_
  rintro e w2 ⟨rfl, b2⟩
  rw [← asked_new]
  have HL : Hid (LoopAt w _ _ (asked m 0) zeroAd) := LoopAt.made (wr := w2) (by rw [asked_new]; exact newLies m w2) (HB1.out.trans (b2.mono HB1.out.size))
  clear d0 d1 d2 d3 c0 c1 c2 c3 b2
  unfold wdV
  go_wp2_with fail
  obtain ⟨W0, hW0⟩ : ∃ W0, w2.alloc (.cells #[.slice zeroAd.ho (asked m 0).lg.holds.length zeroAd.hc, .int .i64 (asked m 0).lg.m0, .int .i64 (asked m 0).lg.m1, .int .i64 (asked m 0).lg.m2, .int .i64 (asked m 0).lg.m3, .slice zeroAd.ga (asked m 0).gates.length zeroAd.gc, .slice zeroAd.fa (asked m 0).failed.length zeroAd.fc, .slice zeroAd.qa (asked m 0).queue.length zeroAd.qc, .slice zeroAd.ma (asked m 0).marks.length zeroAd.mc] 29) = W0 := ⟨_, rfl⟩
  rw [hW0] at HL ⊢
  clear hW0
  go_loopw [37, 8] (fun i o wr => ∃ (k : Nat) (A : Ad) (ha : Option Addr) (hc : Nat), k ≤ a ∧ i = .int .i64 k ∧ o = .slice ha (upto 0 (min k m)).length hc ∧ Hid (TurnAt w wr w2.heap.size (asked m k) A ha hc (upto 0 (min k m)))) (fun i _ _ => a - (intOf i).toNat)
  case atStart =>
    have e0 : upto 0 (min 0 m) = [] := upto_none (by omega)
    exact ⟨0, zeroAd, none, 0, by omega, rfl, by rw [e0]; rfl, HL.out, by rw [e0]; exact World.ownsRow_nil _ _ _ _, fun k h => by cases h⟩
  case round =>
    obtain ⟨k, A, ha, hc, hk, rfl, rfl, HK⟩ := hrel
    by_cases hlt : k < a
    · have hlt' : (k : Int) < (a : Int) := by omega
      have k40 : k ≤ 40 := by have := HM.out; omega
      have HST : Hid (_ ∧ _) := asked_step m k 100 (by omega)
      obtain ⟨a0, a1, a2, a3, a4, a5, a6, a7, a8, af, a9⟩ := HK.out.lp.ib.bx
      by_cases hkm : k < m
      · rw [if_pos hkm] at HST
        have hkm' : (k : Int) < (m : Int) := by omega
        have HU : Hid (upto 0 (min (k + 1) m) = upto 0 (min k m) ++ [(k : Int)]) := by show _ = _; rw [Nat.min_eq_left (by omega), Nat.min_eq_left (by omega), upto_snoc (Nat.zero_le _)]
        have HUL : Hid ((upto 0 (min k m)).length ≤ 8) := by show _ ≤ _; have := HM.out; rw [upto_length]; omega
        go_wp2_with fail
        refine (ask_any (asked m k) A k 100 wr HK.out.lp.ib.ld (asked_fits m k (by have := HM.out; omega) (by have := HM.out; omega))).mono ?_
        rintro e w3 ⟨B, rfl, l3, o3, b3⟩
        rw [HST.out.2] at l3 o3
        rw [HST.out.2, HST.out.1]
        obtain ⟨w4, hw4⟩ : ∃ w4, w3.alloc (.cells #[.slice B.ho (asked m (k + 1)).lg.holds.length B.hc, .int .i64 (asked m (k + 1)).lg.m0, .int .i64 (asked m (k + 1)).lg.m1, .int .i64 (asked m (k + 1)).lg.m2, .int .i64 (asked m (k + 1)).lg.m3, .slice B.ga (asked m (k + 1)).gates.length B.gc, .slice B.fa (asked m (k + 1)).failed.length B.fc, .slice B.qa (asked m (k + 1)).queue.length B.qc, .slice B.ma (asked m (k + 1)).marks.length B.mc] 29) = w4 := ⟨_, rfl⟩
        have HW4 : Hid (w3.alloc (.cells #[.slice B.ho (asked m (k + 1)).lg.holds.length B.hc, .int .i64 (asked m (k + 1)).lg.m0, .int .i64 (asked m (k + 1)).lg.m1, .int .i64 (asked m (k + 1)).lg.m2, .int .i64 (asked m (k + 1)).lg.m3, .slice B.ga (asked m (k + 1)).gates.length B.gc, .slice B.fa (asked m (k + 1)).failed.length B.fc, .slice B.qa (asked m (k + 1)).queue.length B.qc, .slice B.ma (asked m (k + 1)).marks.length B.mc] 29) = w4) := hw4
        have HX4 : Hid (Box9 w4 w3.heap.size (.slice B.ho (asked m (k + 1)).lg.holds.length B.hc) (.int .i64 (asked m (k + 1)).lg.m0) (.int .i64 (asked m (k + 1)).lg.m1) (.int .i64 (asked m (k + 1)).lg.m2) (.int .i64 (asked m (k + 1)).lg.m3) (.slice B.ga (asked m (k + 1)).gates.length B.gc) (.slice B.fa (asked m (k + 1)).failed.length B.fc) (.slice B.qa (asked m (k + 1)).queue.length B.qc) (.slice B.ma (asked m (k + 1)).marks.length B.mc)) := by rw [← hw4]; exact Box9.made _ _ _ _ _ _ _ _ _ _ _
        have HK4 : Hid (TurnAt w w4 w2.heap.size (asked m k) A ha hc (upto 0 (min k m))) := by rw [← hw4]; exact (HK.out.keep b3).keep (bel_alloc _ _)
        have HL4 : Hid (WdLies w4 (asked m (k + 1)) B) := by rw [← hw4]; exact l3.below (Nat.le_refl _) (bel_alloc _ _)
        have HO4 : Hid (∀ X, X < wr.heap.size → Off (asked m (k + 1)) B X) := o3
        have HSX : Hid (wr.heap.size ≤ w3.heap.size) := b3.size
        have HRL : Hid (∀ j, (Value.slice ha (upto 0 (min k m)).length hc).ownBlock = some j → j < wr.heap.size) := fun j hj => (HK.out.ow.lt j hj).2
        have HBL : Hid (w2.heap.size < wr.heap.size) := HK.out.lp.ib.bx.lt
        clear a0 a1 a2 a3 a4 a5 a6 a7 a8 af a9
        clear l3 o3 b3 hw4
        unfold wdV
        go_wp2_with (with_reducible refine Hid.out (p := wpList _ _ _ ({ dst := _, op := Op.buildSlice 26 1 _, type := _, pos := _, after := _, guard := _ } :: _) _ _) ?_)
        rw [HW4.out]
        show wpList _ _ _ _ _ w4
        go_wp2_with (at_builtin; refine Hid.out ?_)
        show wpList _ _ _ _ _ (w4.alloc (.cells #[.int .i64 k] 3))
        have NW := World.news_of_block (cs := #[.int .i64 (k : Int)]) (heap_alloc_new w4 (.cells #[.int .i64 (k : Int)] 3))
        have hul := HUL.out
        have hsz4 : w2.heap.size + 1 ≤ w4.heap.size := HK4.out.lp.ib.bx.lt
        have HK4a : Hid (TurnAt w (w4.alloc (.cells #[.int .i64 (k : Int)] 3)) w2.heap.size (asked m k) A ha hc (upto 0 (min k m))) := HK4.out.keep (bel_alloc _ _)
        have HX4a : Hid (Box9 (w4.alloc (.cells #[.int .i64 (k : Int)] 3)) w3.heap.size (.slice B.ho (asked m (k + 1)).lg.holds.length B.hc) (.int .i64 (asked m (k + 1)).lg.m0) (.int .i64 (asked m (k + 1)).lg.m1) (.int .i64 (asked m (k + 1)).lg.m2) (.int .i64 (asked m (k + 1)).lg.m3) (.slice B.ga (asked m (k + 1)).gates.length B.gc) (.slice B.fa (asked m (k + 1)).failed.length B.fc) (.slice B.qa (asked m (k + 1)).queue.length B.qc) (.slice B.ma (asked m (k + 1)).marks.length B.mc)) := HX4.out.keep (bel_alloc _ _)
        have HL4a : Hid (WdLies (w4.alloc (.cells #[.int .i64 (k : Int)] 3)) (asked m (k + 1)) B) := HL4.out.below (Nat.le_refl _) (bel_alloc _ _)
        refine wpList_append_lies _ rfl (.tmp 62) (.tmp 64) 26 rfl (w2.heap.size + 1) 3 i3 _ 1 8 Try.underlying26 hi3 hz3 hs3 hb3 rfl (by decide) _ (upto 0 (min k m)).length (icells (upto 0 (min k m))) rfl (HK4.out.ow.alloc _) ⟨w4.heap.size, 0, none⟩ 1 1 [.int .i64 k] rfl rfl NW (icells_one [(k : Int)]) (by decide) (by unfold maxLen; omega) (by omega) (by simp; omega) (w4.heap.size + 1) (by simp) ?_
        intro g cap w5 own5 gr5 gg5 _
        have own5' : w5.ownsRow (w2.heap.size + 1) 3 1 (.slice (some ⟨g, 0, none⟩) (upto 0 (min (k + 1) m)).length cap) (upto 0 (min (k + 1) m)).length (icells (upto 0 (min (k + 1) m))) := by rw [HU.out, icells_append, List.length_append]; exact own5
        have HLP : Hid (LoopAt w w5 w2.heap.size (asked m k) A) := HK4a.out.lp.grown gr5 (fun j hj => ⟨(HK4a.out.ow.lt j hj).1, HK4a.out.oh j hj⟩)
        have HX5 : Hid (Box9 w5 w3.heap.size (.slice B.ho (asked m (k + 1)).lg.holds.length B.hc) (.int .i64 (asked m (k + 1)).lg.m0) (.int .i64 (asked m (k + 1)).lg.m1) (.int .i64 (asked m (k + 1)).lg.m2) (.int .i64 (asked m (k + 1)).lg.m3) (.slice B.ga (asked m (k + 1)).gates.length B.gc) (.slice B.fa (asked m (k + 1)).failed.length B.fc) (.slice B.qa (asked m (k + 1)).queue.length B.qc) (.slice B.ma (asked m (k + 1)).marks.length B.mc)) := Box9.grown HX4a.out gr5 (fun e => by have := HRL.out _ e; have := HSX.out; omega)
        have HL5 : Hid (WdLies w5 (asked m (k + 1)) B) := HL4a.out.grown gr5 (fun j hj => HO4.out j (HRL.out j hj))
        have HGG : Hid (Off (asked m (k + 1)) B g) := by
          rcases gg5 with h | h
          · exact HO4.out g (HRL.out g h)
          · exact HL4a.out.off (by rw [h]; simp)
        have HOW : Hid (w5.ownsRow (w2.heap.size + 1) 3 1 (.slice (some ⟨g, 0, none⟩) (upto 0 (min (k + 1) m)).length cap) (upto 0 (min (k + 1) m)).length (icells (upto 0 (min (k + 1) m)))) := own5'
        clear own5 own5' gr5 gg5 NW hul hsz4
        obtain ⟨a0, a1, a2, a3, a4, a5, a6, a7, a8, af, a9⟩ := HLP.out.ib.bx
        obtain ⟨x0, x1, x2, x3, x4, x5, x6, x7, x8, xf, x9⟩ := HX5.out
        have HUL2 : Hid ((upto 0 (min k m)).length + 1 = (upto 0 (min (k + 1) m)).length) := by show _ = _; rw [HU.out, List.length_append]; rfl
        go_wp2
        go_roundw
        case rel => exact ⟨k + 1, B, some ⟨g, 0, none⟩, cap, by omega, by go_num, by rw [← HUL2.out], HLP.out.set HL5.out (HO4.out _ HBL.out), owns_set9 HOW.out (by omega) _ _ _ _ _ _ _ _ _, fun j hj => by have e : g = j := Option.some.inj hj; rw [← e]; exact HGG.out⟩
        case measure => simp [intOf]; omega
      · rw [if_neg hkm] at HST
        have hkm' : ¬ (k : Int) < (m : Int) := by omega
        have HU : Hid (upto 0 (min (k + 1) m) = upto 0 (min k m)) := by show _ = _; rw [Nat.min_eq_right (by omega), Nat.min_eq_right (by omega)]
        go_wp2_with fail
        refine (ask_any (asked m k) A k 100 wr HK.out.lp.ib.ld (asked_fits m k (by have := HM.out; omega) (by have := HM.out; omega))).mono ?_
        rintro e w3 ⟨B, rfl, l3, o3, b3⟩
        rw [HST.out.2] at l3 o3
        rw [HST.out.2, HST.out.1]
        obtain ⟨w4, hw4⟩ : ∃ w4, w3.alloc (.cells #[.slice B.ho (asked m (k + 1)).lg.holds.length B.hc, .int .i64 (asked m (k + 1)).lg.m0, .int .i64 (asked m (k + 1)).lg.m1, .int .i64 (asked m (k + 1)).lg.m2, .int .i64 (asked m (k + 1)).lg.m3, .slice B.ga (asked m (k + 1)).gates.length B.gc, .slice B.fa (asked m (k + 1)).failed.length B.fc, .slice B.qa (asked m (k + 1)).queue.length B.qc, .slice B.ma (asked m (k + 1)).marks.length B.mc] 29) = w4 := ⟨_, rfl⟩
        have HW4 : Hid (w3.alloc (.cells #[.slice B.ho (asked m (k + 1)).lg.holds.length B.hc, .int .i64 (asked m (k + 1)).lg.m0, .int .i64 (asked m (k + 1)).lg.m1, .int .i64 (asked m (k + 1)).lg.m2, .int .i64 (asked m (k + 1)).lg.m3, .slice B.ga (asked m (k + 1)).gates.length B.gc, .slice B.fa (asked m (k + 1)).failed.length B.fc, .slice B.qa (asked m (k + 1)).queue.length B.qc, .slice B.ma (asked m (k + 1)).marks.length B.mc] 29) = w4) := hw4
        have HX4 : Hid (Box9 w4 w3.heap.size (.slice B.ho (asked m (k + 1)).lg.holds.length B.hc) (.int .i64 (asked m (k + 1)).lg.m0) (.int .i64 (asked m (k + 1)).lg.m1) (.int .i64 (asked m (k + 1)).lg.m2) (.int .i64 (asked m (k + 1)).lg.m3) (.slice B.ga (asked m (k + 1)).gates.length B.gc) (.slice B.fa (asked m (k + 1)).failed.length B.fc) (.slice B.qa (asked m (k + 1)).queue.length B.qc) (.slice B.ma (asked m (k + 1)).marks.length B.mc)) := by rw [← hw4]; exact Box9.made _ _ _ _ _ _ _ _ _ _ _
        have HK4 : Hid (TurnAt w w4 w2.heap.size (asked m k) A ha hc (upto 0 (min k m))) := by rw [← hw4]; exact (HK.out.keep b3).keep (bel_alloc _ _)
        have HL4 : Hid (WdLies w4 (asked m (k + 1)) B) := by rw [← hw4]; exact l3.below (Nat.le_refl _) (bel_alloc _ _)
        have HO4 : Hid (∀ X, X < wr.heap.size → Off (asked m (k + 1)) B X) := o3
        have HSX : Hid (wr.heap.size ≤ w3.heap.size) := b3.size
        have HRL : Hid (∀ j, (Value.slice ha (upto 0 (min k m)).length hc).ownBlock = some j → j < wr.heap.size) := fun j hj => (HK.out.ow.lt j hj).2
        have HBL : Hid (w2.heap.size < wr.heap.size) := HK.out.lp.ib.bx.lt
        clear a0 a1 a2 a3 a4 a5 a6 a7 a8 af a9
        clear l3 o3 b3 hw4
        unfold wdV
        go_wp2_with (with_reducible refine Hid.out (p := wpList _ _ _ ({ dst := _, op := Op.load 29 (Operand.tmp 10), type := _, pos := _, after := _, guard := _ } :: _) _ _) ?_)
        rw [HW4.out]
        show wpList _ _ _ _ _ w4
        obtain ⟨a0, a1, a2, a3, a4, a5, a6, a7, a8, af, a9⟩ := HK4.out.lp.ib.bx
        obtain ⟨x0, x1, x2, x3, x4, x5, x6, x7, x8, xf, x9⟩ := HX4.out
        go_wp2
        go_roundw
        case rel => exact ⟨k + 1, B, ha, hc, by omega, by go_num, by rw [HU.out], by rw [HU.out]; exact HK4.out.set HL4.out (HO4.out _ HBL.out) (fun j hj => HO4.out j (HRL.out j hj))⟩
        case measure => simp [intOf]; omega
    · obtain rfl : k = a := by omega
      have HG0 : Hid (Gd m k m (upto 0 (min k m))) := gd_start m k
      go_wp2_with fail
      go_loopw [71, 8, 12] (fun i o nx wq => ∃ (j n : Nat) (hv : List Int) (B : Ad) (hb : Option Addr) (hd : Nat), j ≤ xs.length ∧ i = .int .i64 j ∧ o = .slice hb hv.length hd ∧ nx = .int .i64 n ∧ Hid (TurnAt w wq w2.heap.size (stW m hv (upto n k)) B hb hd hv) ∧ Hid (Gd m k n hv)) (fun i _ _ _ => xs.length - (intOf i).toNat)
      case atStart => exact ⟨0, m, upto 0 (min k m), A, ha, hc, by omega, rfl, rfl, rfl, HK, HG0⟩
      case round =>
        clear HK HG0
        obtain ⟨j, n, hv, B, hb, hd, hj, rfl, rfl, rfl, HT, HG⟩ := hrel
        by_cases hlj : j < xs.length
        · obtain ⟨b9, off, rfl, hb9, e9⟩ := (HIn.out.below (Nat.le_refl _) HT.out.lp.bl).lies j hlj
          have hlj' : (j : Int) < (xs.length : Int) := by omega
          obtain ⟨x, hx⟩ : ∃ x, xs[j] = x := ⟨_, rfl⟩
          rw [hx] at e9
          clear hx
          have hvl : hv.length ≤ 8 := by have := HG.out.len; have := HM.out; omega
          by_cases h0 : hv.length = 0
          · have z0 : ((hv.length : Int) == 0) = true := by simp [h0]
            clear h0
            go_wp2
            go_ret
            exact ⟨rfl, HT.out.lp.bl⟩
          have z0 : ((hv.length : Int) == 0) = false := by simp [h0]
          by_cases hx0 : x < 0
          · have d0 : decide (x < 0) = true := decide_eq_true hx0
            go_wp2
            go_roundw
            case rel => exact ⟨j + 1, n, hv, B, hb, hd, by omega, by go_num, rfl, rfl, HT, HG⟩
            case measure => simp [intOf]; omega
          have d0 : decide (x < 0) = false := decide_eq_false hx0
          by_cases hx1 : (hv.length : Int) ≤ x
          · have d1 : decide ((hv.length : Int) ≤ x) = true := decide_eq_true hx1
            go_wp2
            go_roundw
            case rel => exact ⟨j + 1, n, hv, B, hb, hd, by omega, by go_num, rfl, rfl, HT, HG⟩
            case measure => simp [intOf]; omega
          have d1 : decide ((hv.length : Int) ≤ x) = false := decide_eq_false hx1
          obtain ⟨t, rfl⟩ : ∃ t : Nat, x = t := ⟨x.toNat, by omega⟩
          have ht : t < hv.length := by omega
          clear hx0 hx1
          obtain ⟨g, rfl⟩ : ∃ g, hb = some ⟨g, 0, none⟩ := by
            rcases HT.out.ow.2 with ⟨_, q0⟩ | ⟨g, cap, cur, hq, _⟩
            · omega
            · simp at hq; exact ⟨g, hq.1⟩
          have gl := (HT.out.ow.lt g rfl).2
          have gc : wr.cell? ⟨g, t, none⟩ = some (.int .i64 hv[t]) := by
            have h := HT.out.ow.cells (g := g) rfl t (.int .i64 hv[t]) (by simp [icells, ht])
            rw [add_none] at h
            simpa using h
          have ht' : (t : Int) < (hv.length : Int) := by omega
          obtain ⟨N, nn, HN⟩ : ∃ N nn, Hid (backR (stW m hv (upto n k)) hv[t] = N ∧ backN (stW m hv (upto n k)) hv[t] = nn) := ⟨_, _, rfl, rfl⟩
          have HFT : Hid (Fits (stW m hv (upto n k))) := by
            have := HM.out
            have := HG.out.len
            refine fits_small ?_ (Nat.zero_le _) (Nat.zero_le _) ?_ (Nat.zero_le _)
            · show (hv.map leaseH).length ≤ _; rw [List.length_map]; omega
            · show (upto n k).length ≤ _; rw [upto_length]; omega
          have HC : Hid (∀ W', WdLies W' (stW m hv (upto n k)) B → Calls Try.prog 10 #[wdV (stW m hv (upto n k)) B, .int .i64 hv[t]] W' fun e w' => ∃ C, e = .returned (.tuple #[wdV N C, .int .i64 nn, .int .i64 0]) ∧ WdLies w' N C ∧ (∀ X, X < W'.heap.size → Off N C X) ∧ Below W'.heap.size W' w') := by
            intro W' hW
            have h := back_any (stW m hv (upto n k)) B hv[t] W' hW HFT.out
            rw [HN.out.1, HN.out.2, (give_st m hv (upto n k) t ht HG.out.nd).1] at h
            exact h
          have HLD : Hid (∀ W', Below wr.heap.size wr W' → WdLies W' (stW m hv (upto n k)) B) := fun W' h => HT.out.lp.ib.ld.below (Nat.le_refl _) h
          unfold wdV at HC
          obtain ⟨a0, a1, a2, a3, a4, a5, a6, a7, a8, af, a9⟩ := HT.out.lp.ib.bx
          go_wp2_with fail
          clear e9 hb9 z0 d0 d1
          have HZF : Hid (∀ w3, Below (wr.drew.alloc (.cells #[.slice none 0 0, .int .i64 0, .int .i64 0, .int .i64 0, .int .i64 0, .slice none 0 0, .slice none 0 0, .slice none 0 0, .slice none 0 0] 29)).heap.size (wr.drew.alloc (.cells #[.slice none 0 0, .int .i64 0, .int .i64 0, .int .i64 0, .int .i64 0, .slice none 0 0, .slice none 0 0, .slice none 0 0, .slice none 0 0] 29)) w3 → ZBox w3 wr.heap.size) := fun w3 h => Box9.keep (Box9.made' (W := wr.drew) rfl _ _ _ _ _ _ _ _ _ _) h
          have HGL : Hid (g < wr.heap.size) := gl
          have HBW : Hid (w.heap.size ≤ wr.heap.size) := HT.out.lp.bl.size
          go_region_with (go_at_call 10; refine (HC.out _ ?_).mono ?_; (first | exact HLD.out _ (Below.refl _ _).drew | exact HLD.out _ ((Below.refl _ _).drew.alloc (by simp) _)); rintro e w3 ⟨C, rfl, l3, o3, b3⟩; (first | (have zz := HZF.out _ b3; obtain ⟨z0, z1, z2, z3, z4, z5, z6, z7, z8, zf, z9⟩ := zz) | skip))
          all_goals
            clear a0 a1 a2 a3 a4 a5 a6 a7 a8 af a9
            clear gc gl
          all_goals first
            | (obtain ⟨w4, hw4⟩ : ∃ w4, w3.alloc (.cells #[.slice C.ho N.lg.holds.length C.hc, .int .i64 N.lg.m0, .int .i64 N.lg.m1, .int .i64 N.lg.m2, .int .i64 N.lg.m3, .slice C.ga N.gates.length C.gc, .slice C.fa N.failed.length C.fc, .slice C.qa N.queue.length C.qc, .slice C.ma N.marks.length C.mc] 29) = w4 := ⟨_, rfl⟩
               rw [hw4]
               have HX : Hid (XAt w wr w4 w2.heap.size g hd w3.heap.size (stW m hv (upto n k)) B hv N C) := by
                 rw [← hw4]
                 exact ⟨((HT.out.keep (Below.refl _ _).drew).keep b3).keep (bel_alloc _ _), Box9.made _ _ _ _ _ _ _ _ _ _ _, l3.below (Nat.le_refl _) (bel_alloc _ _), fun X hX => o3 X hX, b3.size, by have := b3.size; simp at this ⊢; omega⟩
               clear hw4 b3 l3 o3
               generalize w3.heap.size = p at HX ⊢)
            | (obtain ⟨w4, hw4⟩ : ∃ w4, set9 w3 wr.heap.size (.slice C.ho N.lg.holds.length C.hc) (.int .i64 N.lg.m0) (.int .i64 N.lg.m1) (.int .i64 N.lg.m2) (.int .i64 N.lg.m3) (.slice C.ga N.gates.length C.gc) (.slice C.fa N.failed.length C.fc) (.slice C.qa N.queue.length C.qc) (.slice C.ma N.marks.length C.mc) = w4 := ⟨_, rfl⟩
               have HX : Hid (XAt w wr w4 w2.heap.size g hd wr.heap.size (stW m hv (upto n k)) B hv N C) := by
                 rw [← hw4]
                 exact ⟨(((HT.out.keep (Below.refl _ _).drew).keep (bel_alloc _ _)).keep b3).far9 (by have := HT.out.lp.ib.bx.lt; omega) (HT.out.lp.ib.ld.off (Nat.le_refl _)) (fun e => by have e' : g = wr.heap.size := Option.some.inj e; have := HGL.out; omega) HBW.out, Box9.set (HZF.out _ b3) _ _ _ _ _ _ _ _ _, Wd.far9 l3 (o3 _ (by simp)), fun X hX => o3 X (by simp; omega), Nat.le_refl _, by rw [set9_size]; have := b3.size; simp at this; omega⟩
               unfold set9 at hw4
               rw [hw4]
               clear hw4 b3 l3 o3 z0 z1 z2 z3 z4 z5 z6 z7 z8 zf z9
               generalize wr.heap.size = p at HX ⊢)
          all_goals clear HZF HLD HC
          all_goals
            have hNl0 := back_len HG.out ht
            rw [HN.out.1] at hNl0
            have hNl : decide ((m : Int) < (N.lg.holds.length : Int)) = false := decide_eq_false hNl0
            have hNl2 : decide (m < N.lg.holds.length) = false := decide_eq_false (by omega)
            obtain ⟨x0, x1, x2, x3, x4, x5, x6, x7, x8, xf, x9⟩ := HX.out.bx
            go_wp2_with fail
            clear hNl0 hNl hNl2
            clear x0 x1 x2 x3 x4 x5 x6 x7 x8 xf x9
            have HIV : Hid (IntsAt w4 (some ⟨g, 0, none⟩) hv) := intsAt_of_owns HX.out.t.ow rfl (by unfold maxLen; omega)
            have HCP : Hid (hv.length ≤ hd ∧ hd ≤ maxLen) := (cap_of_owns HX.out.t.ow).2
            have hcp := HCP.out
            unfold maxLen at hcp
            have HS4 : Hid (w2.heap.size + 1 ≤ w4.heap.size) := HX.out.t.lp.ib.bx.lt
            have OE : (w4.drew.alloc (.cells #[] 3)).ownsRow w4.heap.size 3 1 (.slice (some ⟨w4.heap.size, 0, none⟩) 0 0) 0 [] := World.ownsRow_lit (base := w4.heap.size) (e := 3) (size := 1) w4.drew #[] 0 (Nat.le_refl _) (by unfold maxLen; omega) rfl
            have bE : Below w4.heap.size w4 (w4.drew.alloc (.cells #[] 3)) := (Below.refl _ _).drew.alloc (Nat.le_refl _) _
            have IE : Hid (IntsAt (w4.drew.alloc (.cells #[] 3)) (some ⟨g, 0, none⟩) hv) := HIV.out.below (Nat.le_refl _) bE
            have HL3 : Hid ((icells (hv.take t)).length = t * 1) := by show _ = _; rw [icells_length, List.length_take, Nat.min_eq_left (by omega)]
            have HL4 : Hid ((icells (hv.drop (t + 1))).length = (hv.length - (t + 1)) * 1) := by show _ = _; rw [icells_length, List.length_drop]
            have hwt : IntKind.i64.wrap ((t : Int) + 1) = (t : Int) + 1 := wrap_id (by omega) (by omega)
            have tc : (t : Int) ≤ (hd : Int) := by omega
            have tl : (t : Int) + 1 ≤ (hv.length : Int) := by omega
            have tp : (0 : Int) ≤ (t : Int) + 1 := by omega
            have tn1 : t ≤ hd := by omega
            have tn2 : t + 1 ≤ hv.length := by omega
            have tn3 : t + 1 ≤ hd := by omega
            go_region_law (first
              | (refine step_app rfl (.tmp 106) (.tmp 109) 26 rfl w4.heap.size 3 i3 _ 1 8 Try.underlying26 hi3 hz3 hs3 hb3 rfl (by decide) (some ⟨w4.heap.size, 0, none⟩) 0 0 [] rfl OE (some ⟨g, 0, none⟩) t hd (icells (hv.take t)) rfl (fun e => by cases e) HL3.out (IE.out.take t).news (icells_one _) t (by omega) (by unfold maxLen; omega) (by omega) (by simp) ?_; intro ao1 c1 w5 own5 gr5; have b5 : Below w4.heap.size w4 w5 := bE.grown gr5 (by simp) (fun j hj => by have e : w4.heap.size = j := Option.some.inj hj; omega); have IV5 : IntsAt w5 (some ⟨g, 0, none⟩) hv := HIV.out.below (Nat.le_refl _) b5)
              | (refine step_app rfl (.tmp 110) (.tmp 114) 26 rfl w4.heap.size 3 i3 _ 1 8 Try.underlying26 hi3 hz3 hs3 hb3 rfl (by decide) ao1 t c1 (icells (hv.take t)) rfl own5 (if hd = t + 1 then some ⟨g, 0, none⟩ else some ⟨g, t + 1, none⟩) (hv.length - (t + 1)) (hd - (t + 1)) (icells (hv.drop (t + 1))) rfl (by intro e; split at e <;> cases e) HL4.out (tailI IV5 hcp.1 (by omega)).news (icells_one _) (hv.length - 1) (by omega) (by unfold maxLen; omega) (by omega) (by have := b5.size; omega) ?_; intro ao2 c2 w6 own6 gr6; have b6 : Below w4.heap.size w4 w6 := b5.grown gr6 b5.size (fun j hj => (own5.lt j hj).1)))
            generalize (if hd = t + 1 then some (⟨g, 0, none⟩ : Addr) else some ⟨g, t + 1, none⟩) = gg
            have HVL : Hid (hv.length - 1 = (hv.take t ++ hv.drop (t + 1)).length) := by show _ = _; rw [List.length_append, List.length_take, List.length_drop]; omega
            have HO6 : Hid (w6.ownsRow w4.heap.size 3 1 (.slice ao2 (hv.take t ++ hv.drop (t + 1)).length c2) (hv.take t ++ hv.drop (t + 1)).length (icells (hv.take t ++ hv.drop (t + 1)))) := by show World.ownsRow _ _ _ _ _ _ _; rw [← HVL.out, icells_append]; exact own6
            have HLP6 : Hid (LoopAt w w6 w2.heap.size (stW m hv (upto n k)) B) := HX.out.t.lp.keep b6
            have HXB6 : Hid (WBox w6 p N C) := Box9.keep HX.out.bx b6
            have HLD6 : Hid (WdLies w6 N C) := HX.out.ld.below (Nat.le_refl _) b6
            have HOB : Hid (Off N C w2.heap.size) := HX.out.o _ (by have := HT.out.lp.ib.bx.lt; omega)
            have HT7 : Hid (TurnAt w (set9 w6 w2.heap.size (.slice C.ho N.lg.holds.length C.hc) (.int .i64 N.lg.m0) (.int .i64 N.lg.m1) (.int .i64 N.lg.m2) (.int .i64 N.lg.m3) (.slice C.ga N.gates.length C.gc) (.slice C.fa N.failed.length C.fc) (.slice C.qa N.queue.length C.qc) (.slice C.ma N.marks.length C.mc)) w2.heap.size N C ao2 c2 (hv.take t ++ hv.drop (t + 1))) := ⟨HLP6.out.set HLD6.out HOB.out, owns_set9 (HO6.out.mono HS4.out) (by omega) _ _ _ _ _ _ _ _ _, fun j hj => HX.out.ld.off (HO6.out.lt j hj).1⟩
            clear own5 own6 gr5 gr6 b5 b6 IV5 OE bE hwt tc tl tp tn1 tn2 tn3 hcp
            rcases back_cases HG.out ht with ⟨hnk, e1, e2⟩ | ⟨hnk, e1, e2⟩
            · rw [HN.out.2] at e1
              rw [HN.out.1] at e2
              have HNE : Hid (N = stW m ((hv.take t ++ hv.drop (t + 1)) ++ [(n : Int)]) (upto (n + 1) k)) := e2
              have HGN : Hid (Gd m k (n + 1) ((hv.take t ++ hv.drop (t + 1)) ++ [(n : Int)])) := HG.out.next t ht hnk
              subst e1
              clear e2
              have q1 : ¬ (k : Int) ≤ (n : Int) := by omega
              have q2 : ¬ k ≤ n := by omega
              obtain ⟨a0, a1, a2, a3, a4, a5, a6, a7, a8, af, a9⟩ := HLP6.out.ib.bx
              obtain ⟨x0, x1, x2, x3, x4, x5, x6, x7, x8, xf, x9⟩ := HXB6.out
              go_wp2_with (with_reducible refine Hid.out (p := wpList _ _ _ ({ dst := _, op := Op.buildSlice 26 1 _, type := _, pos := _, after := _, guard := _ } :: _) _ _) ?_)
              obtain ⟨w7, hw7⟩ : ∃ w7, set9 w6 w2.heap.size (.slice C.ho N.lg.holds.length C.hc) (.int .i64 N.lg.m0) (.int .i64 N.lg.m1) (.int .i64 N.lg.m2) (.int .i64 N.lg.m3) (.slice C.ga N.gates.length C.gc) (.slice C.fa N.failed.length C.fc) (.slice C.qa N.queue.length C.qc) (.slice C.ma N.marks.length C.mc) = w7 := ⟨_, rfl⟩
              show wpList _ _ _ _ _ (set9 w6 w2.heap.size (.slice C.ho N.lg.holds.length C.hc) (.int .i64 N.lg.m0) (.int .i64 N.lg.m1) (.int .i64 N.lg.m2) (.int .i64 N.lg.m3) (.slice C.ga N.gates.length C.gc) (.slice C.fa N.failed.length C.fc) (.slice C.qa N.queue.length C.qc) (.slice C.ma N.marks.length C.mc))
              rw [hw7]
              rw [hw7] at HT7
              clear a0 a1 a2 a3 a4 a5 a6 a7 a8 af a9
              clear x0 x1 x2 x3 x4 x5 x6 x7 x8 xf x9
              clear hw7
              go_wp2_with (at_builtin; refine Hid.out ?_)
              show wpList _ _ _ _ _ (w7.alloc (.cells #[.int .i64 (n : Int)] 3))
              have NW := World.news_of_block (cs := #[.int .i64 (n : Int)]) (heap_alloc_new w7 (.cells #[.int .i64 (n : Int)] 3))
              have s7 : w2.heap.size + 1 ≤ w7.heap.size := HT7.out.lp.ib.bx.lt
              have HT7a : Hid (TurnAt w (w7.alloc (.cells #[.int .i64 (n : Int)] 3)) w2.heap.size N C ao2 c2 (hv.take t ++ hv.drop (t + 1))) := HT7.out.keep (bel_alloc _ _)
              have o7 : (w7.alloc (.cells #[.int .i64 (n : Int)] 3)).ownsRow (w2.heap.size + 1) 3 1 (.slice ao2 (hv.length - 1) c2) (hv.length - 1) (icells (hv.take t ++ hv.drop (t + 1))) := by rw [HVL.out]; exact HT7a.out.ow
              refine wpList_append_lies _ rfl (.tmp 125) (.tmp 127) 26 rfl (w2.heap.size + 1) 3 i3 _ 1 8 Try.underlying26 hi3 hz3 hs3 hb3 rfl (by decide) _ (hv.length - 1) (icells (hv.take t ++ hv.drop (t + 1))) rfl o7 ⟨w7.heap.size, 0, none⟩ 1 1 [.int .i64 n] rfl rfl NW (icells_one [(n : Int)]) (by decide) (by unfold maxLen; omega) (by omega) (by simp; omega) (w7.heap.size + 1) (by simp) ?_
              intro g2 cap w8 own8 gr8 gg8 _
              have HL2 : Hid (hv.length - 1 + 1 = ((hv.take t ++ hv.drop (t + 1)) ++ [(n : Int)]).length) := by show _ = _; rw [List.length_append, ← HVL.out]; rfl
              have HOK : ∀ j, (Value.slice ao2 (hv.length - 1) c2).ownBlock = some j → w2.heap.size + 1 ≤ j ∧ Off N C j := fun j hj => by
                have hj' : (Value.slice ao2 (hv.take t ++ hv.drop (t + 1)).length c2).ownBlock = some j := by rw [← HVL.out]; exact hj
                exact ⟨(HT7.out.ow.lt j hj').1, HT7.out.oh j hj'⟩
              have HT8 : Hid (TurnAt w w8 w2.heap.size N C (some ⟨g2, 0, none⟩) cap ((hv.take t ++ hv.drop (t + 1)) ++ [(n : Int)])) := by
                refine ⟨HT7a.out.lp.grown gr8 HOK, by rw [← HL2.out, icells_append]; exact own8, fun j hj => ?_⟩
                have e : g2 = j := Option.some.inj hj
                rw [← e]
                rcases gg8 with h | h
                · exact (HOK g2 h).2
                · exact HT7a.out.lp.ib.ld.off (by rw [h]; simp)
              have n40 : n ≤ 40 := by have := HM.out; omega
              clear NW s7 o7 own8 gr8 gg8 HOK
              go_wp2
              go_roundw
              case rel => exact ⟨j + 1, n + 1, (hv.take t ++ hv.drop (t + 1)) ++ [(n : Int)], C, some ⟨g2, 0, none⟩, cap, by omega, by go_num, by rw [HL2.out], by go_num, by rw [← HNE.out]; exact HT8, HGN⟩
              case measure => simp [intOf]; omega
            · rw [HN.out.2] at e1
              rw [HN.out.1] at e2
              have HNE : Hid (N = stW m (hv.take t ++ hv.drop (t + 1)) (upto n k)) := e2
              have HGN : Hid (Gd m k n (hv.take t ++ hv.drop (t + 1))) := HG.out.drop t
              subst e1
              clear e2
              have q1 : (k : Int) ≤ (n : Int) := by omega
              obtain ⟨a0, a1, a2, a3, a4, a5, a6, a7, a8, af, a9⟩ := HLP6.out.ib.bx
              obtain ⟨x0, x1, x2, x3, x4, x5, x6, x7, x8, xf, x9⟩ := HXB6.out
              go_wp2
              go_roundw
              case rel => exact ⟨j + 1, n, (hv.take t ++ hv.drop (t + 1)), C, ao2, c2, by omega, by go_num, by rw [HVL.out], rfl, by rw [← HNE.out]; exact HT7, HGN⟩
              case measure => simp [intOf]; omega
        · go_wp2
          go_ret
          exact ⟨rfl, HT.out.lp.bl⟩
end Go.Proofs.Ytnhndieoaceofaa
