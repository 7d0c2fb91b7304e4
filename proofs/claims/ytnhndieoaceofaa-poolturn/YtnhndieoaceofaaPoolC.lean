/- Whether somebody waits, and whether somebody holds a lease: slices.Contains at numbers, slices.ContainsFunc at holds. -/
import Derived.Test.YtnhndieoaceofaaPoolB
namespace Go.Proofs.Ytnhndieoaceofaa
open Go.RowKit

def inB (v : Int) (xs : List Int) : Bool := xs.any fun x => v == x
theorem inB_false {v : Int} {xs : List Int} (h : ∀ i (hi : i < xs.length), (v == xs[i]) = false) : inB v xs = false := by
  unfold inB
  rw [List.any_eq_false]
  intro x hx
  obtain ⟨i, hi, rfl⟩ := List.getElem_of_mem hx
  simpa using h i hi
theorem inB_true {v : Int} {xs : List Int} {i : Nat} (hi : i < xs.length) (h : (v == xs[i]) = true) : inB v xs = true := by
  unfold inB
  rw [List.any_eq_true]
  exact ⟨xs[i], List.getElem_mem hi, h⟩

set_option maxHeartbeats 1000000 in
theorem index_any (v : Int) (xs : List Int) (ao : Option Addr) (c : Nat) (w : World) (hx : IntsAt w ao xs) :
    Calls Try.prog 25 #[.slice ao xs.length c, .int .i64 v] w fun e w' => ∃ r : Int, e = .returned (.int .i64 r) ∧ Hid (decide (0 ≤ r) = inB v xs) ∧ Below w.heap.size w w' := by
  have hsx := hx.small
  unfold maxLen at hsx
  go_enter Try.func25, Try.ntmps25
  go_wp2
  go_loopw [8] (fun i wr => ∃ k : Nat, k ≤ xs.length ∧ i = .int .i64 k ∧ wr = w ∧ Hid (∀ i (hi : i < xs.length), i < k → (v == xs[i]) = false)) (fun i _ => xs.length - (intOf i).toNat)
  case atStart => exact ⟨0, by omega, rfl, rfl, fun _ _ h => absurd h (by omega)⟩
  case round =>
    obtain ⟨k, hk, rfl, rfl, HN⟩ := hrel
    by_cases hlt : k < xs.length
    · obtain ⟨b, off, rfl, hb, h0⟩ := hx.lies k hlt
      have i1 : (k : Int) < (xs.length : Int) := by omega
      cases e : (v == xs[k]) with
      | false =>
        have HS : Hid (∀ i (hi : i < xs.length), i < k + 1 → (v == xs[i]) = false) := fun i hi hik => by
          by_cases q : i = k
          · subst q; exact e
          · exact HN.out i hi (by omega)
        go_wp2
        go_roundw
        case rel => exact ⟨k + 1, by omega, by go_num, by first | rfl | trivial, HS⟩
        case measure => simp [intOf]; omega
      | true =>
        have HT : Hid (inB v xs = true) := inB_true hlt e
        go_wp2
        go_ret
        exact ⟨k, rfl, by show _ = _; rw [HT.out]; exact decide_eq_true (by omega), Below.refl _ _⟩
    · have HF : Hid (inB v xs = false) := inB_false fun i hi => HN.out i hi (by omega)
      go_wp2
      go_ret
      exact ⟨-1, rfl, by show _ = _; rw [HF.out]; rfl, Below.refl _ _⟩

theorem contains_any (v : Int) (xs : List Int) (ao : Option Addr) (c : Nat) (w : World) (hx : IntsAt w ao xs) :
    Calls Try.prog 17 #[.slice ao xs.length c, .int .i64 v] w fun e w' => e = .returned (.bool (inB v xs)) ∧ Below w.heap.size w w' := by
  have HI := index_any v xs ao c w hx
  generalize inB v xs = r at HI ⊢
  go_enter Try.func17, Try.ntmps17
  go_wp2_with fail
  refine HI.mono ?_
  rintro e w1 ⟨n, rfl, HD, bl⟩
  have hd := HD.out
  go_wp2
  go_ret
  exact ⟨rfl, bl⟩

/-- The test of pool.leases. -/
theorem leases1_any (h : Ho) (B : Nat) (id : Int) (w : World) (hc : w.cell? ⟨B, 0, none⟩ = some (.int .i64 id)) (hB : B < w.heap.size) :
    Calls Try.prog 27 #[hoV h, .pointer (some ⟨B, 0, none⟩)] w fun e w' => e = .returned (.bool (isOf id 2 h)) ∧ Below w.heap.size w w' := by
  unfold hoV
  cases e : (h.id == id) with
  | true =>
    go_enter Try.func27, Try.ntmps27
    go_wp2
    go_ret
    exact ⟨ret_bool (by unfold isOf; rw [e]; rfl), bel_alloc _ _⟩
  | false =>
    go_enter Try.func27, Try.ntmps27
    go_wp2
    go_ret
    exact ⟨ret_bool (by unfold isOf; rw [e]; rfl), bel_alloc _ _⟩

def anyB (p : Ho → Bool) (hs : List Ho) : Bool := hs.any p
theorem anyB_false {p : Ho → Bool} {hs : List Ho} (h : ∀ i (hi : i < hs.length), p hs[i] = false) : anyB p hs = false := by
  unfold anyB
  rw [List.any_eq_false]
  intro x hx
  obtain ⟨i, hi, rfl⟩ := List.getElem_of_mem hx
  simpa using h i hi
theorem anyB_true {p : Ho → Bool} {hs : List Ho} {i : Nat} (hi : i < hs.length) (h : p hs[i] = true) : anyB p hs = true := by
  unfold anyB
  rw [List.any_eq_true]
  exact ⟨hs[i], List.getElem_mem hi, h⟩

set_option maxRecDepth 100000 in
set_option maxHeartbeats 1000000 in
theorem indexFunc_any (p : Ho → Bool) (g : Nat) (lb : Array Value) (eg : ∀ args w, (callFunc g args).run Try.prog w = .ok (.enter g args) w) (hs : List Ho) (ao : Option Addr) (c : Nat) (w : World) (hp : Tells g lb p w) (ha : HoldsAt w ao hs) :
    Calls Try.prog 32 #[.slice ao hs.length c, .func (.func g) #[] lb] w fun e w' => ∃ r : Int, e = .returned (.int .i64 r) ∧ Hid (decide (0 ≤ r) = anyB p hs) ∧ Below w.heap.size w w' := by
  have hsm := ha.small
  unfold maxLen at hsm
  have HP : Hid (Tells g lb p w) := hp
  have HA : Hid (HoldsAt w ao hs) := ha
  clear hp ha
  go_enter Try.func32, Try.ntmps32
  go_wp2
  go_loopw [8] (fun i wr => ∃ (k : Nat), k ≤ hs.length ∧ i = .int .i64 k ∧ Hid (Below w.heap.size w wr) ∧ Hid (∀ i (hi : i < hs.length), i < k → p hs[i] = false)) (fun i _ => hs.length - (intOf i).toNat)
  case atStart => exact ⟨0, by omega, rfl, Below.refl _ _, fun _ _ h => absurd h (by omega)⟩
  case round =>
    obtain ⟨k, hk, rfl, HB, HN⟩ := hrel
    by_cases hlt : k < hs.length
    · have hb := HA.out.below (Nat.le_refl _) HB.out
      obtain ⟨b, off, rfl, hbl, c0, c1, c2⟩ := hb.lies k hlt
      have hlt' : (k : Int) < (hs.length : Int) := by omega
      have hcall := HP.out wr hs[k] HB.out
      unfold hoV at hcall
      clear hb
      cases e : p hs[k] with
      | false =>
        rw [e] at hcall
        have HS : Hid (∀ i (hi : i < hs.length), i < k + 1 → p hs[i] = false) := fun i hi hik => by
          by_cases q : i = k
          · subst q; exact e
          · exact HN.out i hi (by omega)
        go_wp2_with (go_at_fn g; refine hcall.mono ?_; rintro e w' ⟨rfl, hb'⟩)
        go_roundw
        case rel => exact ⟨k + 1, by omega, by go_num, hb', HS⟩
        case measure => simp [intOf]; omega
      | true =>
        rw [e] at hcall
        have HT : Hid (anyB p hs = true) := anyB_true hlt e
        go_wp2_with (go_at_fn g; refine hcall.mono ?_; rintro e w' ⟨rfl, hb'⟩)
        go_ret
        exact ⟨k, rfl, by show _ = _; rw [HT.out]; exact decide_eq_true (by omega), hb'⟩
    · have HF : Hid (anyB p hs = false) := anyB_false fun i hi => HN.out i hi (by omega)
      go_wp2
      go_ret
      exact ⟨-1, rfl, by show _ = _; rw [HF.out]; rfl, HB.out⟩
theorem containsFunc_any (p : Ho → Bool) (g : Nat) (lb : Array Value) (eg : ∀ args w, (callFunc g args).run Try.prog w = .ok (.enter g args) w) (hs : List Ho) (ao : Option Addr) (c : Nat) (w : World) (hp : Tells g lb p w) (ha : HoldsAt w ao hs) :
    Calls Try.prog 26 #[.slice ao hs.length c, .func (.func g) #[] lb] w fun e w' => e = .returned (.bool (anyB p hs)) ∧ Below w.heap.size w w' := by
  have HI := indexFunc_any p g lb eg hs ao c w hp ha
  generalize anyB p hs = r at HI ⊢
  go_enter Try.func26, Try.ntmps26
  go_wp2_with fail
  refine HI.mono ?_
  rintro e w1 ⟨n, rfl, HD, bl⟩
  have hd := HD.out
  go_wp2
  go_ret
  exact ⟨rfl, bl⟩

theorem enters27 : ∀ args w, (callFunc 27 args).run Try.prog w = .ok (.enter 27 args) w := enters_of Try.func27 (by kernel_rfl) rfl
theorem tells_leases {w : World} {B : Nat} {id : Int} (hc : w.cell? ⟨B, 0, none⟩ = some (.int .i64 id)) (hB : B < w.heap.size) : Tells 27 #[.pointer (some ⟨B, 0, none⟩)] (isOf id 2) w := by
  intro W x hb
  refine (leases1_any x B id W (by rw [hb.cell (p := ⟨B, 0, none⟩) hB]; exact hc) (Nat.lt_of_lt_of_le hB hb.size)).mono ?_
  rintro e w' ⟨rfl, b⟩
  exact ⟨rfl, hb.trans (b.mono hb.size)⟩
def leaseB (id : Int) (hs : List Ho) : Bool := anyB (isOf id 2) hs
theorem leases_any (l : Lg) (v : Value) (id : Int) (w : World) (hl : LgAt w v l) :
    Calls Try.prog 18 #[v, .int .i64 id] w fun e w' => e = .returned (.bool (leaseB id l.holds)) ∧ Below w.heap.size w w' := by
  obtain ⟨ao, c, rfl, a1, _⟩ := hl
  unfold lgV
  obtain ⟨W2, hW2⟩ : ∃ W2, (w.alloc (.cells #[.slice ao l.holds.length c, .int .i64 l.m0, .int .i64 l.m1, .int .i64 l.m2, .int .i64 l.m3] 25)).alloc (.cells #[.int .i64 id] 3) = W2 := ⟨_, rfl⟩
  have hbel : Below w.heap.size w W2 := by rw [← hW2]; exact ((Below.refl _ _).alloc (Nat.le_refl _) _).alloc (by simp) _
  have HT : Hid (Tells 27 #[.pointer (some ⟨w.heap.size + 1, 0, none⟩)] (isOf id 2) W2) := tells_leases (by rw [← hW2]; simp [go_sem]) (by rw [← hW2]; simp)
  have HA : Hid (HoldsAt W2 ao l.holds) := a1.below (Nat.le_refl _) hbel
  have HW : Hid (_ = W2) := hW2
  clear hW2 a1
  go_enter Try.func18, Try.ntmps18
  go_wp2_with fail
  rw [HW.out]
  refine (containsFunc_any (isOf id 2) 27 #[.pointer (some ⟨w.heap.size + 1, 0, none⟩)] enters27 l.holds ao c W2 HT.out HA.out).mono ?_
  rintro e w1 ⟨rfl, bl⟩
  go_wp2
  go_ret
  exact ⟨rfl, hbel.trans (bl.mono hbel.size)⟩
theorem ptake_any (l : Lg) (v : Value) (id : Int) (w : World) (hl : LgAt w v l) (hr : (l.holds.length + 1) * 24 ≤ 140737488355328) :
    Calls Try.prog 19 #[v, .int .i64 id] w fun e w' => ∃ v', e = .returned (.tuple #[v', .int .i64 (takeE l 2)]) ∧ LgNew w.heap.size w' v' (takeR l id 2 (-1)) ∧ Below w.heap.size w w' := by
  obtain ⟨ao, c, rfl⟩ := lgAt_form hl
  obtain ⟨W2, hW2⟩ : ∃ W2, (w.alloc (.cells #[.slice ao l.holds.length c, .int .i64 l.m0, .int .i64 l.m1, .int .i64 l.m2, .int .i64 l.m3] 25)).alloc (.cells #[.slice none 0 0, .int .i64 0, .int .i64 0, .int .i64 0, .int .i64 0] 25) = W2 := ⟨_, rfl⟩
  have hbel : Below w.heap.size w W2 := by rw [← hW2]; exact ((Below.refl _ _).alloc (Nat.le_refl _) _).alloc (by simp) _
  have hsz : W2.heap.size = w.heap.size + 2 := by rw [← hW2]; simp
  have HZX : Hid (Box5 W2 (w.heap.size + 1) (.slice none 0 0) (.int .i64 0) (.int .i64 0) (.int .i64 0) (.int .i64 0)) := by
    refine ⟨?_, ?_, ?_, ?_, ?_, fun j => ?_, by rw [hsz]; omega⟩ <;> rw [← hW2] <;> simp [go_sem]
  have HT := take_any l (lgV l ao c) id 2 (-1) W2 (hl.below (Nat.le_refl _) hbel) hr
  generalize takeE l 2 = E at HT ⊢
  generalize takeR l id 2 (-1) = R at HT ⊢
  have HW : Hid (_ = W2) := hW2
  have HB : Hid (Below w.heap.size w W2) := hbel
  have HZ : Hid (W2.heap.size = w.heap.size + 2) := hsz
  clear hW2 hbel hsz hl hr
  unfold lgV
  go_enter Try.func19, Try.ntmps19
  go_wp2_with fail
  rw [HW.out]
  refine HT.mono ?_
  rintro e w1 ⟨v', rfl, n1, b1⟩
  obtain ⟨ao1, c1, rfl, m1, m2, m3, m4, mf⟩ := n1
  rw [HZ.out] at mf
  have s1 := b1.size
  rw [HZ.out] at s1
  have HM : Hid (HoldsAt w1 ao1 R.holds ∧ (ao1 = none → c1 = 0) ∧ R.holds.length ≤ c1 ∧ c1 ≤ maxLen) := ⟨m1, m2, m3, m4⟩
  have HF : Hid (Fresh (w.heap.size + 2) ao1 R.holds) := mf
  have HB1 : Hid (Below w.heap.size w w1) := HB.out.trans (b1.mono HB.out.size)
  obtain ⟨z0, z1, z2, z3, z4, zf, zl⟩ := HZX.out.keep b1
  clear m1 m2 m3 m4 mf b1
  unfold lgV
  go_wp2
  refine bodyPost_ret (v := .tuple #[.agg #[.slice ao1 R.holds.length c1, .int .i64 R.m0, .int .i64 R.m1, .int .i64 R.m2, .int .i64 R.m3], .int .i64 E]) (by simp [results, Try.results19, go_sem, z0, z1, z2, z3, z4]) rfl ⟨_, rfl, ?_, ?_⟩
  · refine ⟨ao1, c1, rfl, ?_, HM.out.2.1, HM.out.2.2.1, HM.out.2.2.2, fun b off hne e => by have := HF.out b off hne e; omega⟩
    show HoldsAt (set5 w1 (w.heap.size + 1) R ao1 c1) ao1 R.holds
    exact HM.out.1.far (by rw [set5_size]; exact Nat.le_refl _) (fun k j hk => set5_far hk) (fun b off hne e => by have := HF.out b off hne e; omega)
  · exact set5_below (N := R) (aN := ao1) (cN := c1) HB1.out (by omega)
end Go.Proofs.Ytnhndieoaceofaa
