/- What one holds, by the document's own function. -/
import Derived.Test.YtaolojgofehcjaaLedP
namespace Go.Proofs.Ytaolojgofehcjaa
open Go.RowKit

set_option maxRecDepth 100000 in
set_option maxHeartbeats 1000000 in
theorem mine_any (l : Lg) (v : Value) (id : Int) (w : World) (hl : LgAt w v l) (hr : l.holds.length * 24 ≤ 140737488355328) :
    Calls Try.prog 10 #[v, .int .i64 id] w fun e w' => ∃ ao c, e = .returned (.slice ao (mineL id l.holds).length c) ∧ w'.ownsRow w.heap.size 27 3 (.slice ao (mineL id l.holds).length c) (mineL id l.holds).length (hocells (mineL id l.holds)) ∧ Below w.heap.size w w' := by
  obtain ⟨ao, c, rfl, a1, _⟩ := hl
  unfold lgV
  have hsm := a1.small
  obtain ⟨i27, hi27, hz27, hs27, hb27⟩ := info_parts Try.info27
  have HR : Hid (l.holds.length * 24 ≤ 140737488355328) := hr
  clear hr
  unfold maxLen at hsm
  go_enter Try.func10, Try.ntmps10
  go_wp2
  go_loopw [11, 5] (fun i o wr => ∃ (k : Nat) (ms : List Ho) (mo : Option Addr) (mc : Nat), k ≤ l.holds.length ∧ i = .int .i64 k ∧ o = .slice mo ms.length mc ∧ Below (w.heap.size + 1) (w.alloc (.cells #[.slice ao l.holds.length c, .int .i64 l.m0, .int .i64 l.m1, .int .i64 l.m2, .int .i64 l.m3] 25)) wr ∧ wr.ownsRow (w.heap.size + 1) 27 3 (.slice mo ms.length mc) ms.length (hocells ms) ∧ Hid (mo = none ∨ 0 < ms.length) ∧ Hid (mineL id (l.holds.take k) = ms)) (fun i _ _ => l.holds.length - (intOf i).toNat)
  case atStart => exact ⟨0, [], none, 0, by omega, rfl, rfl, Below.refl _ _, World.ownsRow_nil _ _ _ _, .inl rfl, rfl⟩
  case round =>
    obtain ⟨k, ms, mo, mc, hk, rfl, rfl, hbel, hown, HP, HM⟩ := hrel
    have bw : Below w.heap.size w wr := ((Below.refl _ _).alloc (Nat.le_refl _) _).trans (hbel.mono (by omega))
    have hsz := hbel.size
    simp at hsz
    by_cases hlt : k < l.holds.length
    · obtain ⟨b, off, rfl, hb, c0, c1, c2⟩ := a1.lies k hlt
      have hlt' : (k : Int) < (l.holds.length : Int) := by omega
      have eb := fun j => bw.cell (p := ⟨b, j, none⟩) hb
      rw [← eb] at c0 c1 c2
      have hml : ms.length ≤ k := by rw [← HM.out]; have := mineL_len id (l.holds.take k); simp at this; omega
      have HS : Hid (mineL id (l.holds.take (k + 1)) = if (l.holds[k].id == id) = true then l.holds[k] :: ms else ms) := by
        show _ = _
        rw [List.take_add_one, List.getElem?_eq_getElem hlt]
        show mineL id (l.holds.take k ++ [l.holds[k]]) = _
        rw [mineL_snoc, HM.out]
      clear eb
      cases e : (l.holds[k].id == id) with
      | false =>
        go_wp2
        go_roundw
        case rel => exact ⟨k + 1, ms, mo, mc, by omega, by go_num, rfl, hbel.alloc (by omega) _, hown.alloc _, HP, by show _ = _; rw [HS.out, e]; rfl⟩
        case measure => simp [intOf]; omega
      | true =>
        have HRR : Hid ((1 + ms.length) * 24 ≤ 140737488355328) := by have := HR.out; show _ ≤ _; omega
        rcases hown.2 with ⟨hv, h0⟩ | ⟨g, cap, cur, hv, hgb, hg, hrest⟩
        · obtain rfl : ms = [] := List.eq_nil_of_length_eq_zero h0
          simp only [Value.slice.injEq] at hv
          obtain ⟨rfl, _, rfl⟩ := hv
          go_wp2_with (at_builtin; refine wpList_append_own_none rfl _ _ 22 rfl (w.heap.size + 1) 27 i27 3 Try.underlying22 hi27 _ 1 _ rfl (lit_owns wr (w.heap.size + 1) hsz _ l.holds[k]) rfl ?_)
          go_roundw
          case rel => exact ⟨k + 1, [l.holds[k]], some ⟨wr.heap.size + 1, 0, none⟩, 1, by omega, by go_num, rfl, (hbel.alloc (by omega) _).alloc (by simp; omega) _, lit_owns wr (w.heap.size + 1) hsz _ l.holds[k], .inr (by simp), by show _ = _; rw [HS.out, e]; rfl⟩
          case measure => simp [intOf]; omega
        · simp only [Value.slice.injEq, true_and] at hv
          obtain ⟨rfl, rfl⟩ := hv
          have hpos : 0 < ms.length := by rcases HP.out with h | h; cases h; exact h
          have NW := ((hown.alloc (.cells #[.int .i64 l.holds[k].id, .int .i64 l.holds[k].kind, .int .i64 l.holds[k].filter] 27)).alloc (.cells #[.int .i64 l.holds[k].id, .int .i64 l.holds[k].kind, .int .i64 l.holds[k].filter] 27)).cells (g := g) rfl
          go_wp2_with (at_builtin; refine wpList_append_lies _ rfl (.tmp 20) (.tmp 21) 22 rfl (w.heap.size + 1) 27 i27 _ 3 24 Try.underlying22 hi27 hz27 hs27 hb27 rfl (by decide) _ 1 _ rfl (lit_owns wr (w.heap.size + 1) hsz _ l.holds[k]) ⟨g, 0, none⟩ ms.length mc (hocells ms) rfl (hocells_length ms) NW (hocells_one ms) hpos (by unfold maxLen; omega) HRR.out (by simp; omega) (wr.heap.size + 2) (by simp) ?_; intro g' cap' w' own' gr' _ _)
          go_roundw
          case rel => exact ⟨k + 1, l.holds[k] :: ms, some ⟨g', 0, none⟩, cap', by omega, by go_num, by rw [Nat.add_comm]; rfl, ((hbel.alloc (by omega) _).alloc (by simp; omega) _).grown gr' (by simp; omega) (fun j hj => by have e : wr.heap.size + 1 = j := Option.some.inj hj; omega), by rw [Nat.add_comm 1 ms.length] at own'; exact own', .inr (by simp), by show _ = _; rw [HS.out, e]; rfl⟩
          case measure => simp [intOf]; omega
    · have hm : mineL id l.holds = ms := by
        have := HM.out
        rw [List.take_of_length_le (by omega)] at this
        exact this
      have HM2 : Hid (mineL id l.holds = ms) := hm
      clear hm
      go_wp2
      go_ret
      rw [HM2.out]
      exact ⟨mo, mc, rfl, hown.mono (by omega), bw⟩
end Go.Proofs.Ytaolojgofehcjaa
