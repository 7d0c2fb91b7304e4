/- The closed fact that the laws of package sieve ask first; the law SieveGate walked. -/
import Derived.Test.YtmndhecbjpjamaaSvE
namespace Go.Proofs.Ytmndhecbjpjamaa
open Go.RowKit

/-- A message without heads and body. -/
def bareM (st : Int) (p : ByteArray) : Ms := ⟨st, p, [], ⟨#[]⟩⟩
theorem msAt_bare (w : World) (st : Int) (p : ByteArray) (hp : p.size ≤ maxLen) : MsAt w (.agg #[.int .i64 st, .string p, .slice none 0 0, .slice none 0 0]) (bareM st p) :=
  ⟨⟨none, 0, none, 0, rfl, ⟨fun i h => absurd h (Nat.not_lt_zero i), Nat.zero_le _, fun _ hh => nomatch hh⟩, ⟨fun i h => absurd h (Nat.not_lt_zero i), .inl rfl, Nat.zero_le _⟩, fun _ => rfl, fun _ => rfl, Nat.le_refl 0, Nat.zero_le _⟩, hp, Nat.zero_le _, Nat.zero_le _⟩
theorem New.bare {base : Nat} {w : World} {v : Value} {st : Int} {p : ByteArray} (h : New base w v (bareM st p)) : ∃ ao c bo d, v = .agg #[.int .i64 st, .string p, .slice ao 0 c, .slice bo 0 d] := h.shape

set_option maxHeartbeats 1000000 in
theorem alive_any (w : World) : Calls Try.prog 13 #[] w fun e w' => e = .returned (.bool true) ∧ Below w.heap.size w w' := by
  go_enter Try.func13, Try.ntmps13
  go_wp2_with fail
  refine (ask_any 5 2 ⟨#[]⟩ ⟨#[]⟩ (bareM 0 ⟨#[47]⟩) _ 1 _ (msAt_bare _ 0 ⟨#[47]⟩ (by decide)) (by decide) (by decide) (by omega) (by omega)).mono ?_
  rintro e w1 ⟨v', rfl, nw, b1⟩
  rw [show askD 5 2 ⟨#[]⟩ ⟨#[]⟩ (bareM 0 ⟨#[47]⟩) 1 = 0 from rfl, show askG 5 2 1 = 2 from rfl]
  rw [show askM 5 2 ⟨#[]⟩ ⟨#[]⟩ (bareM 0 ⟨#[47]⟩) 1 = bareM 0 ⟨#[47]⟩ from rfl] at nw
  obtain ⟨ao, c, bo, d, rfl⟩ := nw.bare
  have B1 : Hid (Below w.heap.size w w1) := b1
  have s1 := b1.size
  clear nw b1
  go_wp2_with fail
  refine (answers_any 6 2 ⟨#[]⟩ ⟨#[]⟩ (bareM 500 ⟨#[]⟩) _ 1 _ (msAt_bare _ 500 ⟨#[]⟩ (by decide)) (by decide) (by decide)).mono ?_
  rintro e w2 ⟨v', rfl, nw, b2⟩
  rw [show ansD 6 2 (bareM 500 ⟨#[]⟩) 1 = 6 from rfl]
  rw [show ansM 6 ⟨#[]⟩ ⟨#[]⟩ (bareM 500 ⟨#[]⟩) = bareM 500 ⟨#[]⟩ from rfl] at nw
  obtain ⟨ao', c', bo', d', rfl⟩ := nw.bare
  have hbx := fun j => b2.cell (p := ⟨w1.heap.size, j, none⟩) (by simp)
  have s2 := b2.size
  simp at s2
  have B2 : Hid (Below w.heap.size w w2) := (B1.out.alloc s1 _).trans (b2.mono (by simp; omega))
  clear nw b2
  have lt : w1.heap.size < w2.heap.size := by omega
  have hb0 := hbx 0
  have hb1 := hbx 1
  simp at hb0 hb1
  clear hbx
  go_wp2_with fail
  refine (swrong_any 0 0 ⟨#[]⟩ ⟨#[]⟩ _ (by decide) (by decide)).mono ?_
  rintro e w3 ⟨rfl, b3⟩
  rw [show sieveE 0 0 ⟨#[]⟩ ⟨#[]⟩ = 1 from rfl]
  go_wp2
  go_ret
  exact ⟨rfl, (B2.out.alloc (by omega) _).trans (b3.mono (by simp; omega))⟩

/-- How many are let through of so many asks. -/
def thru (most : Int) (j : Nat) : Int := if (j : Int) ≤ most then j else most
theorem thru_zero {most : Int} (h : 0 ≤ most) : thru most 0 = 0 := by unfold thru; rw [if_pos (by simpa using h)]; rfl
theorem thru_bd {most : Int} (h0 : 0 ≤ most) (h4 : most ≤ 4) (j : Nat) : 0 ≤ thru most j ∧ thru most j ≤ 4 := by unfold thru; split <;> omega
theorem thru_go {most : Int} {j : Nat} (h : (j : Int) < most) : thru most j = j ∧ thru most (j + 1) = thru most j + 1 := by
  unfold thru; rw [if_pos (by omega), if_pos (by omega)]; exact ⟨rfl, by omega⟩
theorem thru_stop {most : Int} {j : Nat} (h : ¬ (j : Int) < most) : thru most j = most ∧ thru most (j + 1) = thru most j := by
  unfold thru
  rw [if_neg (by omega : ¬ ((j + 1 : Nat) : Int) ≤ most)]
  split
  · exact ⟨by omega, by omega⟩
  · exact ⟨rfl, rfl⟩
theorem thru_end {most asks : Int} (h : 0 ≤ asks) : thru most asks.toNat = min most asks := by
  unfold thru
  rw [Int.toNat_of_nonneg h]
  split <;> omega

set_option maxHeartbeats 1000000 in
theorem gate_any (most asks : Int) (w : World) (h0 : 0 ≤ most) (h4 : most ≤ 4) (a0 : 0 ≤ asks) (a5 : asks ≤ 50) :
    Calls Try.prog 5 #[.int .i64 most, .int .i64 asks] w fun e w' => e = .returned (.bool true) ∧ Below w.heap.size w w' := by
  go_enter Try.func5, Try.ntmps5
  go_wp2_with fail
  refine (alive_any _).mono ?_
  rintro e w1 ⟨rfl, b1⟩
  have B1 : Hid (Below w.heap.size w w1) := b1
  clear b1
  go_wp2
  go_loopw [5, 6, 27] (fun gt th i wr => ∃ j : Nat, (j : Int) ≤ asks ∧ i = .int .i64 j ∧ gt = .int .i64 (thru most j) ∧ th = .int .i64 (thru most j) ∧ Below w.heap.size w wr) (fun _ _ i _ => asks.toNat - (intOf i).toNat)
  case atStart => exact ⟨0, by simpa using a0, rfl, by rw [thru_zero h0], by rw [thru_zero h0], B1.out⟩
  case round =>
    obtain ⟨j, hj, rfl, rfl, rfl, bw⟩ := hrel
    have BW : Hid (Below w.heap.size w wr) := bw
    have tb := thru_bd h0 h4 j
    clear bw
    by_cases hlt : (j : Int) < asks
    · by_cases hm : (j : Int) < most
      · have T : Hid (thru most j = j ∧ thru most (j + 1) = thru most j + 1) := thru_go hm
        have D : Hid (askD 5 most ⟨#[]⟩ ⟨#[]⟩ (bareM 0 ⟨#[47]⟩) (thru most j) = 0) := by
          show askD _ _ _ _ _ _ = 0
          have : ¬ most ≤ thru most j := by rw [T.out.1]; omega
          simp [askD, askS, this]
        have G : Hid (askG 5 most (thru most j) = thru most (j + 1)) := by
          show askG _ _ _ = _
          rw [askG, if_pos (by rw [T.out.1]; omega), T.out.2]
        go_wp2_with fail
        refine (ask_any 5 most ⟨#[]⟩ ⟨#[]⟩ (bareM 0 ⟨#[47]⟩) _ (thru most j) _ (msAt_bare _ 0 ⟨#[47]⟩ (by decide)) (by decide) (by decide) (by omega) (by omega)).mono ?_
        rintro e w2 ⟨v', rfl, nw, b2⟩
        rw [D.out, G.out]
        obtain ⟨ao, c, bo, d, rfl⟩ := nw.shape
        have s2 := b2.size
        have B2 : Hid (Below w.heap.size w w2) := BW.out.trans (b2.mono BW.out.size)
        clear nw b2
        go_wp2
        go_roundw
        case rel => exact ⟨j + 1, by omega, by go_num, rfl, by rw [T.out.2], B2.out.alloc B2.out.size _⟩
        case measure => simp [intOf]; omega
      · have T : Hid (thru most j = most ∧ thru most (j + 1) = thru most j) := thru_stop hm
        have D : Hid (askD 5 most ⟨#[]⟩ ⟨#[]⟩ (bareM 0 ⟨#[47]⟩) (thru most j) = 1) := by
          show askD _ _ _ _ _ _ = 1
          have : most ≤ thru most j := by rw [T.out.1]; omega
          simp [askD, askS, this]
        have G : Hid (askG 5 most (thru most j) = thru most (j + 1)) := by
          show askG _ _ _ = _
          rw [askG, if_neg (by rw [T.out.1]; omega), T.out.2]
        go_wp2_with fail
        refine (ask_any 5 most ⟨#[]⟩ ⟨#[]⟩ (bareM 0 ⟨#[47]⟩) _ (thru most j) _ (msAt_bare _ 0 ⟨#[47]⟩ (by decide)) (by decide) (by decide) (by omega) (by omega)).mono ?_
        rintro e w2 ⟨v', rfl, nw, b2⟩
        rw [D.out, G.out]
        obtain ⟨ao, c, bo, d, rfl⟩ := nw.shape
        have s2 := b2.size
        have B2 : Hid (Below w.heap.size w w2) := BW.out.trans (b2.mono BW.out.size)
        clear nw b2
        go_wp2
        go_roundw
        case rel => exact ⟨j + 1, by omega, by go_num, rfl, by rw [T.out.2], B2.out.alloc B2.out.size _⟩
        case measure => simp [intOf]; omega
    · have E : Hid (thru most j = min most asks) := by
        show thru most j = _
        have : j = asks.toNat := by omega
        rw [this]; exact thru_end a0
      rw [E.out]
      clear tb
      go_wp2
      all_goals
        go_ret
        exact ⟨rfl, BW.out⟩

set_option maxHeartbeats 1000000 in
theorem gate_out (most asks : Int) (w : World) (h : most < 0 ∨ 4 < most ∨ asks < 0 ∨ 50 < asks) :
    Calls Try.prog 5 #[.int .i64 most, .int .i64 asks] w fun e w' => e = .returned (.bool true) ∧ Below w.heap.size w w' := by
  rcases h with h | h | h | h
  all_goals
    go_enter Try.func5, Try.ntmps5
    go_wp2_with fail
    refine (alive_any _).mono ?_
    rintro e w1 ⟨rfl, b1⟩
    go_wp2
    all_goals
      go_ret
      exact ⟨rfl, b1⟩

theorem sgate_any (most asks : Int) (w : World) :
    Calls Try.prog 5 #[.int .i64 most, .int .i64 asks] w fun e w' => e = .returned (.bool true) ∧ Below w.heap.size w w' := by
  by_cases h : most < 0 ∨ 4 < most ∨ asks < 0 ∨ 50 < asks
  · exact gate_out most asks w h
  · exact gate_any most asks w (by omega) (by omega) (by omega) (by omega)
end Go.Proofs.Ytmndhecbjpjamaa
