/- What package ledger's functions come to: Last, Take. -/
import Derived.Test.YtaolojgofehcjabLedJ
namespace Go.Proofs.Ytaolojgofehcjab
open Go.RowKit

theorem enters17 : ∀ args w, (callFunc 18 args).run Try.prog w = .ok (.enter 18 args) w := enters_of Try.func18 (by kernel_rfl) rfl
theorem enters19 : ∀ args w, (callFunc 19 args).run Try.prog w = .ok (.enter 19 args) w := enters_of Try.func19 (by kernel_rfl) rfl
theorem tells_last {w : World} {B : Nat} {id : Int} (hc : w.cell? ⟨B, 0, none⟩ = some (.int .i64 id)) (hB : B < w.heap.size) : Tells 18 #[.pointer (some ⟨B, 0, none⟩)] (mineB id) w := by
  intro W x hb
  refine (last1_any x B id W (by rw [hb.cell (p := ⟨B, 0, none⟩) hB]; exact hc) (Nat.lt_of_lt_of_le hB hb.size)).mono ?_
  rintro e w' ⟨rfl, b⟩
  exact ⟨rfl, hb.trans (b.mono hb.size)⟩
theorem tells_give {w : World} {B C : Nat} {id kind : Int} (hc : w.cell? ⟨B, 0, none⟩ = some (.int .i64 id)) (hB : B < w.heap.size) (hd : w.cell? ⟨C, 0, none⟩ = some (.int .i64 kind)) (hC : C < w.heap.size) : Tells 19 #[.pointer (some ⟨B, 0, none⟩), .pointer (some ⟨C, 0, none⟩)] (isOf id kind) w := by
  intro W x hb
  refine (give1_any x B C id kind W (by rw [hb.cell (p := ⟨B, 0, none⟩) hB]; exact hc) (Nat.lt_of_lt_of_le hB hb.size) (by rw [hb.cell (p := ⟨C, 0, none⟩) hC]; exact hd) (Nat.lt_of_lt_of_le hC hb.size)).mono ?_
  rintro e w' ⟨rfl, b⟩
  exact ⟨rfl, hb.trans (b.mono hb.size)⟩

theorem lastH_place (id : Int) (hs : List Ho) : (lastI (mineB id) hs = -1 ∧ hoV (lastH id hs) = .agg #[.int .i64 0, .int .i64 0, .int .i64 0] ∧ hasB id hs = false) ∨
    ∃ (t : Nat) (h : t < hs.length), lastI (mineB id) hs = (t : Int) ∧ hoV (lastH id hs) = .agg #[.int .i64 hs[t].id, .int .i64 hs[t].kind, .int .i64 hs[t].filter] ∧ hasB id hs = true := by
  rcases lastI_cases (mineB id) hs with ⟨h1, h2⟩ | ⟨pre, x, post, e, hp, hx, hl⟩
  · left
    have h : mineL id hs = [] := mineL_none id hs fun x hx e => by have := h2 x hx; simp [mineB, e] at this
    refine ⟨h1, ?_, ?_⟩
    · unfold lastH; rw [h]; rfl
    · unfold hasB; rw [h]; rfl
  · right
    have ht : pre.length < hs.length := by rw [e]; simp
    have hq : hs[pre.length] = x := by subst e; simp
    have hm : mineL id post = [] := mineL_none id post fun y hy e => by have := hp y hy; simp [mineB, e] at this
    have q : mineL id hs = x :: mineL id pre := by
      rw [e, show pre ++ x :: post = (pre ++ [x]) ++ post by simp, mineL_append, hm, mineL_snoc, if_pos (by simpa [mineB] using hx)]
      rfl
    refine ⟨pre.length, ht, hl, ?_, ?_⟩
    · unfold lastH; rw [q, hq]; rfl
    · unfold hasB; rw [q]; rfl

set_option maxRecDepth 100000 in
set_option maxHeartbeats 1000000 in
theorem last_any (l : Lg) (v : Value) (id : Int) (w : World) (hl : LgAt w v l) :
    Calls Try.prog 8 #[v, .int .i64 id] w fun e w' => e = .returned (.tuple #[hoV (lastH id l.holds), .bool (hasB id l.holds)]) ∧ Below w.heap.size w w' := by
  obtain ⟨ao, cc, rfl, a1, _⟩ := hl
  have hsm := a1.small
  unfold maxLen at hsm
  unfold lgV
  obtain ⟨W3, hW3⟩ : ∃ W3, ((w.alloc (.cells #[.slice ao l.holds.length cc, .int .i64 l.m0, .int .i64 l.m1, .int .i64 l.m2, .int .i64 l.m3] 25)).alloc (.cells #[.int .i64 id] 3)).alloc (.cells #[.int .i64 0, .int .i64 0, .int .i64 0] 31) = W3 := ⟨_, rfl⟩
  have hbel : Below w.heap.size w W3 := by rw [← hW3]; exact (((Below.refl _ _).alloc (Nat.le_refl _) _).alloc (by simp) _).alloc (by simp; omega) _
  have hsz : W3.heap.size = w.heap.size + 3 := by rw [← hW3]; simp
  have TT : Tells 18 #[.pointer (some ⟨w.heap.size + 1, 0, none⟩)] (mineB id) W3 := tells_last (by rw [← hW3]; simp [go_sem]) (by rw [hsz]; omega)
  have HT : Hid (Tells 18 #[.pointer (some ⟨w.heap.size + 1, 0, none⟩)] (mineB id) W3) := TT
  have HA : Hid (HoldsAt W3 ao l.holds) := a1.below (Nat.le_refl _) hbel
  have k0 : W3.cell? ⟨w.heap.size, 0, none⟩ = some (.slice ao l.holds.length cc) := by rw [← hW3]; simp [go_sem]
  have z0 : W3.cell? ⟨w.heap.size + 2, 0, none⟩ = some (.int .i64 0) := by rw [← hW3]; simp [go_sem]
  have z1 : W3.cell? ⟨w.heap.size + 2, 1, none⟩ = some (.int .i64 0) := by rw [← hW3]; simp [go_sem]
  have z2 : W3.cell? ⟨w.heap.size + 2, 2, none⟩ = some (.int .i64 0) := by rw [← hW3]; simp [go_sem]
  have f2 : ∀ j, W3.frozen? ⟨w.heap.size + 2, j, none⟩ = false := by intro j; rw [← hW3]; simp [go_sem]
  have HB : Hid (Below w.heap.size w W3) := hbel
  have HW : Hid (((w.alloc (.cells #[.slice ao l.holds.length cc, .int .i64 l.m0, .int .i64 l.m1, .int .i64 l.m2, .int .i64 l.m3] 25)).alloc (.cells #[.int .i64 id] 3)).alloc (.cells #[.int .i64 0, .int .i64 0, .int .i64 0] 31) = W3) := hW3
  have HZ : Hid (W3.heap.size = w.heap.size + 3) := hsz
  have HK : Hid (_ ∧ _ ∧ _ ∧ _ ∧ _) := ⟨k0, z0, z1, z2, f2⟩
  have HP : Hid (_ ∨ _) := lastH_place id l.holds
  clear hbel hsz TT hW3 k0 z0 z1 z2 f2 a1
  go_enter Try.func8, Try.ntmps8
  go_wp2_with fail
  rw [HW.out]
  refine (place_any (mineB id) 18 #[.pointer (some ⟨w.heap.size + 1, 0, none⟩)] enters17 l.holds ao cc W3 HT.out HA.out).mono ?_
  rintro e w1 ⟨rfl, b1⟩
  have bs := b1.size
  rw [HZ.out] at bs
  have HA1 := HA.out.below (Nat.le_refl _) b1
  obtain ⟨k0, z0, z1, z2, f2⟩ := HK.out
  rw [← b1.cell (by show _ < _; rw [HZ.out]; show w.heap.size < _; omega)] at k0
  rw [← b1.cell (by show _ < _; rw [HZ.out]; show w.heap.size + 2 < _; omega)] at z0 z1 z2
  have f2' : ∀ j, w1.frozen? ⟨w.heap.size + 2, j, none⟩ = false := fun j => by rw [b1.frozen (by show _ < _; rw [HZ.out]; show w.heap.size + 2 < _; omega)]; exact f2 j
  have HB1 : Hid (Below w.heap.size w w1) := HB.out.trans (b1.mono HB.out.size)
  clear b1 f2
  rcases HP.out with ⟨e1, e2⟩ | ⟨t, ht, e1, e2⟩
  · rw [e1]
    have HE : Hid (_ ∧ _) := e2
    clear e1 e2 HA1
    go_wp2
    refine bodyPost_ret (v := .tuple #[.agg #[.int .i64 0, .int .i64 0, .int .i64 0], .bool false]) (by simp [results, Try.results8, go_sem, z0, z1, z2]) rfl ⟨by rw [HE.out.1, HE.out.2], ?_⟩
    iterate 3 (refine Below.setCell ?_ (by simp; try omega) _)
    exact HB1.out
  · rw [e1]
    have HE : Hid (_ ∧ _) := e2
    clear e1 e2
    obtain ⟨b, off, rfl, hb, c0, c1, c2⟩ := HA1.lies t ht
    clear HA1
    have ht' : (t : Int) < (l.holds.length : Int) := by omega
    have t0 : (0 : Int) ≤ (t : Int) := by omega
    have tn : ¬ (t : Int) < 0 := by omega
    go_wp2
    refine bodyPost_ret (v := .tuple #[.agg #[.int .i64 l.holds[t].id, .int .i64 l.holds[t].kind, .int .i64 l.holds[t].filter], .bool true]) (by simp [results, Try.results8, go_sem, z0, z1, z2]) rfl ⟨by rw [HE.out.1, HE.out.2], ?_⟩
    iterate 3 (refine Below.setCell ?_ (by simp; try omega) _)
    exact HB1.out

theorem known_in {kind : Int} (h : kind = 1 ∨ kind = 2 ∨ kind = 3) : knownB kind = true := by rcases h with rfl | rfl | rfl <;> rfl
theorem known_out {kind : Int} (h : kind < 1 ∨ 3 < kind) : knownB kind = false := by
  unfold knownB
  rw [show (kind == 1) = false by simp; omega, show (kind == 2) = false by simp; omega, show (kind == 3) = false by simp; omega]
  rfl

set_option maxRecDepth 100000 in
set_option maxHeartbeats 1000000 in
theorem take_kind (l : Lg) (v : Value) (id kind filter : Int) (w : World) (hl : LgAt w v l) (hk : kind < 1 ∨ 3 < kind) :
    Calls Try.prog 7 #[v, .int .i64 id, .int .i64 kind, .int .i64 filter] w fun e w' => ∃ v', e = .returned (.tuple #[v', .int .i64 1]) ∧ LgNew w.heap.size w' v' zeroLg ∧ Below w.heap.size w w' := by
  obtain ⟨ao, c, rfl, a1, _⟩ := hl
  unfold lgV
  have HK : Hid (knownB kind = false) := known_out hk
  clear hk
  go_enter Try.func7, Try.ntmps7
  go_wp2_with (go_at_call 16; refine (known_any kind _).mono ?_; rintro e w' ⟨rfl, rfl⟩; rw [HK.out])
  refine bodyPost_ret (v := .tuple #[.agg #[.slice none 0 0, .int .i64 0, .int .i64 0, .int .i64 0, .int .i64 0], .int .i64 1]) (by simp [results, Try.results7, go_sem]) rfl ⟨_, rfl, zeroAt _ _, ?_⟩
  exact ((Below.refl _ _).alloc (Nat.le_refl _) _).alloc (by simp) _
end Go.Proofs.Ytaolojgofehcjab
