/- What package ledger's functions come to: Count, New, known, the two tests, the place of the last hold that fits. -/
import Derived.Test.YtnhndieoaceofaaLedQ
import Derived.Shelf.Abstract
namespace Go.Proofs.Ytnhndieoaceofaa
open Go.RowKit

set_option maxRecDepth 100000 in
set_option maxHeartbeats 1000000 in
theorem count_any (l : Lg) (v : Value) (kind : Int) (w : World) (hl : LgAt w v l) :
    Calls Try.prog 34 #[v, .int .i64 kind] w fun e w' => e = .returned (.int .i64 (countL kind l.holds)) ∧ Below w.heap.size w w' := by
  obtain ⟨ao, cc, rfl⟩ := lgAt_form hl
  have hsm : l.holds.length ≤ maxLen := by obtain ⟨_, _, _, h, _⟩ := hl; exact h.small
  unfold maxLen at hsm
  obtain ⟨W1, hW1⟩ : ∃ W1, w.alloc (.cells #[.slice ao l.holds.length cc, .int .i64 l.m0, .int .i64 l.m1, .int .i64 l.m2, .int .i64 l.m3] 25) = W1 := ⟨_, rfl⟩
  have HX0 : Hid (LBoxAt W1 w.heap.size l ao cc) := by have h := LBoxAt.made hl; rw [hW1] at h; exact h
  have HB0 : Hid (Below w.heap.size w W1) := by have h := bel_alloc w (.cells #[.slice ao l.holds.length cc, .int .i64 l.m0, .int .i64 l.m1, .int .i64 l.m2, .int .i64 l.m3] 25); rw [hW1] at h; exact h
  have HW1 : Hid (w.alloc (.cells #[.slice ao l.holds.length cc, .int .i64 l.m0, .int .i64 l.m1, .int .i64 l.m2, .int .i64 l.m3] 25) = W1) := hW1
  clear hl hW1
  unfold lgV
  go_enter Try.func34, Try.ntmps34
  go_wp2
  rw [HW1.out]
  go_loopw [11, 5] (fun i o wr => ∃ (k cnt : Nat), k ≤ l.holds.length ∧ i = .int .i64 k ∧ o = .int .i64 cnt ∧ Hid (Below W1.heap.size W1 wr) ∧ cnt ≤ k ∧ Hid (countL kind (l.holds.take k) = cnt)) (fun i _ _ => l.holds.length - (intOf i).toNat)
  case atStart => exact ⟨0, 0, by omega, rfl, rfl, Below.refl _ _, Nat.le_refl _, rfl⟩
  case round =>
    obtain ⟨k, cnt, hk, rfl, rfl, HBL, hck, HM⟩ := hrel
    by_cases hlt : k < l.holds.length
    · have hlg := (HX0.out.keep HBL.out).lg
      obtain ⟨ao', c', ev, hho, _⟩ := hlg
      unfold lgV at ev
      simp at ev
      obtain ⟨rfl, rfl⟩ := ev
      obtain ⟨b', off, rfl, hb, c0, c1, c2⟩ := hho.lies k hlt
      clear hho
      have hlt' : (k : Int) < (l.holds.length : Int) := by omega
      have HS : Hid (countL kind (l.holds.take (k + 1)) = cnt + if (l.holds[k].kind == kind) = true then 1 else 0) := by
        show _ = _
        rw [List.take_add_one, List.getElem?_eq_getElem hlt]
        show countL kind (l.holds.take k ++ [l.holds[k]]) = _
        rw [countL_snoc, HM.out]
      cases e : (l.holds[k].kind == kind) with
      | false =>
        go_wp2
        go_roundw
        case rel => exact ⟨k + 1, cnt, by omega, by go_num, rfl, HBL.out.trans ((bel_alloc _ _).mono HBL.out.size), by omega, by show _ = _; rw [HS.out, e]; rfl⟩
        case measure => simp [intOf]; omega
      | true =>
        go_wp2
        go_roundw
        case rel => exact ⟨k + 1, cnt + 1, by omega, by go_num, by go_num, HBL.out.trans ((bel_alloc _ _).mono HBL.out.size), by omega, by show _ = _; rw [HS.out, e]; rfl⟩
        case measure => simp [intOf]; omega
    · have HM2 : Hid (countL kind l.holds = cnt) := by
        have := HM.out
        rw [List.take_of_length_le (by omega)] at this
        exact this
      go_wp2
      go_ret
      exact ⟨by rw [HM2.out]; rfl, HB0.out.trans (HBL.out.mono HB0.out.size)⟩

def knownB (kind : Int) : Bool := (kind == 1) || ((kind == 2) || (kind == 3))
theorem known_any (kind : Int) (w : World) : Calls Try.prog 33 #[.int .i64 kind] w fun e w' => e = .returned (.bool (knownB kind)) ∧ w' = w := by
  cases e1 : (kind == 1) with
  | true =>
    go_enter Try.func33, Try.ntmps33
    go_wp2
    go_ret
    exact ⟨ret_bool (by unfold knownB; rw [e1]; rfl), rfl⟩
  | false =>
    cases e2 : (kind == 2) with
    | true =>
      go_enter Try.func33, Try.ntmps33
      go_wp2
      go_ret
      exact ⟨ret_bool (by unfold knownB; rw [e1, e2]; rfl), rfl⟩
    | false =>
      go_enter Try.func33, Try.ntmps33
      go_wp2
      go_ret
      exact ⟨ret_bool (by unfold knownB; rw [e1, e2]; rfl), rfl⟩

def mineB (id : Int) (h : Ho) : Bool := h.id == id
theorem give1_any (h : Ho) (B C : Nat) (id kind : Int) (w : World) (hc : w.cell? ⟨B, 0, none⟩ = some (.int .i64 id)) (hB : B < w.heap.size) (hd : w.cell? ⟨C, 0, none⟩ = some (.int .i64 kind)) (hC : C < w.heap.size) :
    Calls Try.prog 30 #[hoV h, .pointer (some ⟨B, 0, none⟩), .pointer (some ⟨C, 0, none⟩)] w fun e w' => e = .returned (.bool (isOf id kind h)) ∧ Below w.heap.size w w' := by
  unfold hoV
  cases e : (h.id == id) with
  | true =>
    go_enter Try.func30, Try.ntmps30
    go_wp2
    go_ret
    exact ⟨ret_bool (by unfold isOf; rw [e]; rfl), bel_alloc _ _⟩
  | false =>
    go_enter Try.func30, Try.ntmps30
    go_wp2
    go_ret
    exact ⟨ret_bool (by unfold isOf; rw [e]; rfl), bel_alloc _ _⟩

theorem lastI_none (p : Ho → Bool) (hs : List Ho) (h : ∀ x ∈ hs, p x = false) : lastI p hs = -1 := by
  rcases lastI_cases p hs with h1 | ⟨pre, x, post, e, _, hx, _⟩
  · exact h1.1
  · have := h x (by rw [e]; simp)
    rw [this] at hx
    simp at hx

/-- What is asked of a test: in every world behind this one it tells whether a hold fits, and leaves such a world. -/
def Tells (g : Nat) (lb : Array Value) (p : Ho → Bool) (w : World) : Prop :=
  ∀ (W : World) (x : Ho), Below w.heap.size w W → Calls Try.prog g (#[hoV x] ++ lb) W fun e w' => e = .returned (.bool (p x)) ∧ Below w.heap.size w w'

set_option maxRecDepth 100000 in
set_option maxHeartbeats 1000000 in
theorem place_any (p : Ho → Bool) (g : Nat) (lb : Array Value) (eg : ∀ args w, (callFunc g args).run Try.prog w = .ok (.enter g args) w) (hs : List Ho) (ao : Option Addr) (c : Nat) (w : World) (hp : Tells g lb p w) (ha : HoldsAt w ao hs) :
    Calls Try.prog 29 #[.slice ao hs.length c, .func (.func g) #[] lb] w fun e w' => e = .returned (.int .i64 (lastI p hs)) ∧ Below w.heap.size w w' := by
  have hsm := ha.small
  unfold maxLen at hsm
  have HP : Hid (Tells g lb p w) := hp
  have HA : Hid (HoldsAt w ao hs) := ha
  clear hp ha
  go_enter Try.func29, Try.ntmps29
  go_wp2
  go_loopw [5] (fun i wr => ∃ (k : Nat), k ≤ hs.length ∧ i = .int .i64 ((k : Int) - 1) ∧ Hid (Below w.heap.size w wr) ∧ Hid (∀ x ∈ hs.drop k, p x = false)) (fun i _ => (intOf i + 1).toNat)
  case atStart => exact ⟨hs.length, by omega, by go_num, Below.refl _ _, by show ∀ x ∈ _, _; rw [List.drop_eq_nil_of_le (Nat.le_refl _)]; intro x h; simp at h⟩
  case round =>
    obtain ⟨k, hk, rfl, HB, HM⟩ := hrel
    cases k with
    | zero =>
      have HL : Hid (lastI p hs = -1) := lastI_none p hs (by simpa using HM.out)
      have e0 : ((0 : Nat) : Int) - 1 = -1 := by omega
      rw [e0]
      go_wp2
      go_ret
      exact ⟨by rw [HL.out]; rfl, HB.out⟩
    | succ k =>
      have hlt : k < hs.length := by omega
      have hb := HA.out.below (Nat.le_refl _) HB.out
      obtain ⟨b, off, rfl, hbl, c0, c1, c2⟩ := hb.lies k hlt
      have hlt' : (k : Int) < (hs.length : Int) := by omega
      have ek : ((k + 1 : Nat) : Int) - 1 = (k : Int) := by omega
      have k0 : (0 : Int) ≤ (k : Int) := by omega
      have hcall := HP.out wr hs[k] HB.out
      unfold hoV at hcall
      clear hb
      rw [ek]
      have HE : Hid (hs = hs.take k ++ hs[k] :: hs.drop (k + 1)) := by show _ = _; rw [← List.drop_eq_getElem_cons hlt, List.take_append_drop]
      cases e : p hs[k] with
      | false =>
        rw [e] at hcall
        have HN : Hid (∀ x ∈ hs.drop k, p x = false) := by
          show ∀ x ∈ _, _
          rw [List.drop_eq_getElem_cons hlt]
          intro x hx
          rcases List.mem_cons.1 hx with rfl | hx
          · exact e
          · exact HM.out x hx
        go_wp2_with (go_at_fn g; refine hcall.mono ?_; rintro e w' ⟨rfl, hb'⟩)
        go_roundw
        case rel => exact ⟨k, by omega, by go_num, hb', HN⟩
        case measure => first | (simp [intOf]; done) | (simp [intOf]; omega)
      | true =>
        rw [e] at hcall
        have HL : Hid (lastI p hs = (k : Int)) := by
          show _ = _
          have h := lastI_at p (hs.take k) (hs.drop (k + 1)) hs[k] e HM.out
          rw [← HE.out, List.length_take, Nat.min_eq_left (by omega)] at h
          exact h
        go_wp2_with (go_at_fn g; refine hcall.mono ?_; rintro e w' ⟨rfl, hb'⟩)
        go_ret
        exact ⟨by rw [HL.out]; rfl, hb'⟩
end Go.Proofs.Ytnhndieoaceofaa
