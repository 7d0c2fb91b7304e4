/- What package ledger's functions come to: Last, Take. -/
import Derived.Test.YtnhndieoaceofaaLedJ
namespace Go.Proofs.Ytnhndieoaceofaa
open Go.RowKit

theorem enters19 : ∀ args w, (callFunc 30 args).run Try.prog w = .ok (.enter 30 args) w := enters_of Try.func30 (by kernel_rfl) rfl
theorem tells_give {w : World} {B C : Nat} {id kind : Int} (hc : w.cell? ⟨B, 0, none⟩ = some (.int .i64 id)) (hB : B < w.heap.size) (hd : w.cell? ⟨C, 0, none⟩ = some (.int .i64 kind)) (hC : C < w.heap.size) : Tells 30 #[.pointer (some ⟨B, 0, none⟩), .pointer (some ⟨C, 0, none⟩)] (isOf id kind) w := by
  intro W x hb
  refine (give1_any x B C id kind W (by rw [hb.cell (p := ⟨B, 0, none⟩) hB]; exact hc) (Nat.lt_of_lt_of_le hB hb.size) (by rw [hb.cell (p := ⟨C, 0, none⟩) hC]; exact hd) (Nat.lt_of_lt_of_le hC hb.size)).mono ?_
  rintro e w' ⟨rfl, b⟩
  exact ⟨rfl, hb.trans (b.mono hb.size)⟩

theorem lastH_place (id : Int) (hs : List Ho) : (lastI (mineB id) hs = -1 ∧ hoV (lastH id hs) = .agg #[.int .i64 0, .int .i64 0, .int .i64 0] ∧ hasB id hs = false) ∨
    ∃ (t : Nat) (h : t < hs.length), lastI (mineB id) hs = (t : Int) ∧ hoV (lastH id hs) = .agg #[.int .i64 hs[t].id, .int .i64 hs[t].kind, .int .i64 hs[t].filter] ∧ hasB id hs = true := by
  rcases lastI_cases (mineB id) hs with ⟨h1, h2⟩ | ⟨pre, x, post, e, hp, hx, hl⟩
  · left
    have h : mineL id hs = [] := mineL_none id hs fun x hx e => by have := h2 x hx; simp [mineB, e] at this
    refine ⟨h1, ?_, ?_⟩
    · unfold lastH; rw [h]; rfl
    · unfold hasB; rw [h]; rfl
  · right
    have ht : pre.length < hs.length := by rw [e]; simp
    have hq : hs[pre.length] = x := by subst e; simp
    have hm : mineL id post = [] := mineL_none id post fun y hy e => by have := hp y hy; simp [mineB, e] at this
    have q : mineL id hs = x :: mineL id pre := by
      rw [e, show pre ++ x :: post = (pre ++ [x]) ++ post by simp, mineL_append, hm, mineL_snoc, if_pos (by simpa [mineB] using hx)]
      rfl
    refine ⟨pre.length, ht, hl, ?_, ?_⟩
    · unfold lastH; rw [q, hq]; rfl
    · unfold hasB; rw [q]; rfl

theorem known_in {kind : Int} (h : kind = 1 ∨ kind = 2 ∨ kind = 3) : knownB kind = true := by rcases h with rfl | rfl | rfl <;> rfl
theorem known_out {kind : Int} (h : kind < 1 ∨ 3 < kind) : knownB kind = false := by
  unfold knownB
  rw [show (kind == 1) = false by simp; omega, show (kind == 2) = false by simp; omega, show (kind == 3) = false by simp; omega]
  rfl

set_option maxRecDepth 100000 in
set_option maxHeartbeats 1000000 in
theorem take_kind (l : Lg) (v : Value) (id kind filter : Int) (w : World) (hl : LgAt w v l) (hk : kind < 1 ∨ 3 < kind) :
    Calls Try.prog 28 #[v, .int .i64 id, .int .i64 kind, .int .i64 filter] w fun e w' => ∃ v', e = .returned (.tuple #[v', .int .i64 1]) ∧ LgNew w.heap.size w' v' zeroLg ∧ Below w.heap.size w w' := by
  obtain ⟨ao, c, rfl, a1, _⟩ := hl
  unfold lgV
  have HK : Hid (knownB kind = false) := known_out hk
  clear hk
  go_enter Try.func28, Try.ntmps28
  go_wp2_with (go_at_call 33; refine (known_any kind _).mono ?_; rintro e w' ⟨rfl, rfl⟩; rw [HK.out])
  refine bodyPost_ret (v := .tuple #[.agg #[.slice none 0 0, .int .i64 0, .int .i64 0, .int .i64 0, .int .i64 0], .int .i64 1]) (by simp [results, Try.results28, go_sem]) rfl ⟨_, rfl, zeroAt _ _, ?_⟩
  exact ((Below.refl _ _).alloc (Nat.le_refl _) _).alloc (by simp) _
end Go.Proofs.Ytnhndieoaceofaa
