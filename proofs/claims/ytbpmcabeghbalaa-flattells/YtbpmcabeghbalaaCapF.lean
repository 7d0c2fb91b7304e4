/- The document's own answer: what a filter can. -/
import Derived.Test.YtbpmcabeghbalaaCapD
import Derived.Maps.Own
import Derived.Maps.OwnOps
import Derived.Maps.OwnSet
import Derived.Maps.Views
namespace Go.Proofs.Ytbpmcabeghbalaa
open Go.RowKit Go.Maps

theorem and0 (x : Int) : bits .and .i64 x 0 = 0 := by
  have h : bits .and .i64 x 0 = IntKind.i64.wrap (((BitVec.ofInt 64 x &&& BitVec.ofInt 64 0).toNat : Nat) : Int) := rfl
  have h7 : (BitVec.ofInt 64 0).toNat = 0 := by decide
  rw [h, BitVec.toNat_and, h7, Nat.and_zero]
  decide
theorem canB_other (k n call : Int) (h1 : call ≠ 1) (h2 : call ≠ 2) (h3 : call ≠ 3) : canB k n call = false := by
  unfold canB bitI
  rw [if_neg h1, if_neg h2, if_neg h3, and0]
  decide
theorem wild_cases {n : Int} (h0 : 0 ≤ n) (h7 : n ≤ 7) : n = 0 ∨ n = 1 ∨ n = 2 ∨ n = 3 ∨ n = 4 ∨ n = 5 ∨ n = 6 ∨ n = 7 := by omega

theorem ilaw : Keyed Try.prog 3 := int_keyed Try.underlying3
theorem zero3 (w : World) : (zeroValue 3).run Try.prog w = .ok (.int .i64 0) w := by kernel_rfl
theorem put_ii {w : World} {b n : Nat} {D : DataW Unit} (h : w.ownsMap Try.prog 3 (plainElem Try.prog 3) b n D) (hn : n < 100) (a : Int) (ha : (Lit.int .i64 a).wf = true) (c : Int) (hc : (Lit.int .i64 c).wf = true) :
    ∃ w', (Instr.mapUpdate 54 (.map (some b)) (.int .i64 a) (.int .i64 c)).run Try.prog w = .ok () w' ∧ w'.ownsMap Try.prog 3 (plainElem Try.prog 3) b (n + 1) (D.put (.int .i64 a) (.lit (.int .i64 c))) ∧ w.grownBy w' (some b) :=
  h.update ilaw Try.underlying54 (by unfold maxLen; omega) (keyOf_int_mk Try.underlying3 ha) (plainElem_int Try.underlying3 hc)
theorem look_ii {w : World} {b n : Nat} {D : DataW Unit} (h : w.ownsMap Try.prog 3 (plainElem Try.prog 3) b n D) (a : Int) (ha : (Lit.int .i64 a).wf = true) :
    ∃ c : Int, (Instr.lookup 54 (.map (some b)) (.int .i64 a) false).run Try.prog w = .ok (.int .i64 c) w ∧ D.atKey (.int .i64 a) (.lit (.int .i64 0)) = .lit (.int .i64 c) := by
  obtain ⟨v, ps, hrun, hv⟩ := h.lookup ilaw Try.underlying54 (zero3 w) (plainElem_int Try.underlying3 (by decide)) (keyOf_int_mk Try.underlying3 ha)
  obtain ⟨c, rfl, hc, _⟩ := plainElem_int_inv Try.underlying3 hv
  simp only [Prod.mk.injEq] at hc
  exact ⟨c, hrun, hc.1⟩

def canD : DataW Unit := ((((((DataW.map []).put (.int .i64 1) (.lit (.int .i64 1))).put (.int .i64 2) (.lit (.int .i64 2))).put (.int .i64 3) (.lit (.int .i64 1))).put (.int .i64 4) (.lit (.int .i64 1))).put (.int .i64 5) (.lit (.int .i64 1))).put (.int .i64 6) (.lit (.int .i64 2))
theorem canD_at (k n : Int) (h : k ≠ 7) : canD.atKey (.int .i64 k) (.lit (.int .i64 0)) = .lit (.int .i64 (canI k n)) := by
  rcases kind_cases k with rfl | rfl | rfl | rfl | rfl | rfl | rfl | ⟨h1, h2, h3, h4, h5, h6, h7⟩
  case inr.inr.inr.inr.inr.inr.inr =>
    have e : canI k n = 0 := by simp [canI, h1, h2, h3, h4, h5, h6, h7]
    rw [e]
    unfold canD
    rw [atKey_put_other (by simpa using h6), atKey_put_other (by simpa using h5), atKey_put_other (by simpa using h4), atKey_put_other (by simpa using h3), atKey_put_other (by simpa using h2), atKey_put_other (by simpa using h1)]
    rfl
  case inr.inr.inr.inr.inr.inr.inl => exact absurd rfl h
  all_goals rfl

set_option maxRecDepth 100000 in
set_option maxHeartbeats 1000000 in
theorem rcan_any (k n : Int) (key text : ByteArray) (hk : (Lit.int .i64 k).wf = true) (w : World) :
    Calls Try.prog 11 #[.agg #[.int .i64 k, .int .i64 n, .string key, .string text]] w fun e w' => e = .returned (.int .i64 (canI k n)) ∧ Below w.heap.size w w' := by
  by_cases h7 : k = 7
  · subst h7
    go_enter Try.func11, Try.ntmps11
    go_wp2
    go_ret
    exact ⟨rfl, (Below.refl _ _).alloc (Nat.le_refl _) _⟩
  have h7' : (k == 7) = false := by simpa using h7
  have hmm := @run_makeMap Try.prog
  generalize hw0 : w.alloc (.cells #[.int .i64 k, .int .i64 n, .string key, .string text] 38) = w0
  have hbx : ∀ w', Below w0.heap.size w0 w' → w'.cell? ⟨w.heap.size, 0, none⟩ = some (.int .i64 k) := fun w' hb => by
    rw [hb.cell (p := ⟨w.heap.size, 0, none⟩) (by rw [← hw0]; simp), ← hw0]
    simp
  obtain ⟨w1, r1, o1, g1⟩ := put_ii (World.ownsMap_made (H := Unit) w0 Try.prog 3 (plainElem Try.prog 3)) (by omega) 1 (by decide) 1 (by decide)
  obtain ⟨w2, r2, o2, g2⟩ := put_ii o1 (by omega) 2 (by decide) 2 (by decide)
  obtain ⟨w3, r3, o3, g3⟩ := put_ii o2 (by omega) 3 (by decide) 1 (by decide)
  obtain ⟨w4, r4, o4, g4⟩ := put_ii o3 (by omega) 4 (by decide) 1 (by decide)
  obtain ⟨w5, r5, o5, g5⟩ := put_ii o4 (by omega) 5 (by decide) 1 (by decide)
  obtain ⟨w6, r6, o6, g6⟩ := put_ii o5 (by omega) 6 (by decide) 2 (by decide)
  obtain ⟨c, l1, a1⟩ := look_ii o6 k hk
  have HE : Hid (canI k n = c) := by
    have h : canD.atKey (.int .i64 k) (.lit (.int .i64 0)) = .lit (.int .i64 c) := a1
    rw [canD_at k n h7] at h
    injection h with h
    injection h
  have b0 : Below w0.heap.size w0 (w0.alloc (.map #[] 0)) := (Below.refl _ _).alloc (Nat.le_refl _) _
  have b1 := b0.grown g1 b0.size (fun k e => by cases e; exact Nat.le_refl _)
  have b2 := b1.grown g2 b1.size (fun k e => by cases e; exact Nat.le_refl _)
  have b3 := b2.grown g3 b2.size (fun k e => by cases e; exact Nat.le_refl _)
  have b4 := b3.grown g4 b3.size (fun k e => by cases e; exact Nat.le_refl _)
  have b5 := b4.grown g5 b4.size (fun k e => by cases e; exact Nat.le_refl _)
  have b6 := b5.grown g6 b5.size (fun k e => by cases e; exact Nat.le_refl _)
  have hbx6 := hbx w6 b6
  have HB : Hid (Below w.heap.size w w6) := ((Below.refl _ _).alloc (Nat.le_refl _) _).trans (hw0 ▸ b6.mono (by rw [← hw0]; simp))
  clear b0 b1 b2 b3 b4 b5 b6 g1 g2 g3 g4 g5 g6 o1 o2 o3 o4 o5 o6 hbx a1 h7
  subst hw0
  simp only [World.size_alloc] at r1 r2 r3 r4 r5 r6 l1
  go_enter Try.func11, Try.ntmps11
  go_wp2
  go_ret
  exact ⟨by rw [HE.out]; rfl, HB.out⟩

set_option maxRecDepth 100000 in
set_option maxHeartbeats 4000000 in
theorem rcancall_any (k n : Int) (key text : ByteArray) (call : Int) (hk : (Lit.int .i64 k).wf = true) (w : World) :
    Calls Try.prog 6 #[.agg #[.int .i64 k, .int .i64 n, .string key, .string text], .int .i64 call] w fun e w' => e = .returned (.bool (canB k n call)) ∧ Below w.heap.size w w' := by
  have HC : Hid (∀ W, Calls Try.prog 11 #[.agg #[.int .i64 k, .int .i64 n, .string key, .string text]] W fun e w' => e = .returned (.int .i64 (canI k n)) ∧ Below W.heap.size W w') := fun W => rcan_any k n key text hk W
  have bd := canI_bd k n
  rcases call_cases call with rfl | rfl | rfl | ⟨h1, h2, h3⟩
  case inr.inr.inr =>
    have E : Hid (canB k n call = false) := canB_other k n call h1 h2 h3
    clear HC bd
    by_cases h4 : call < 1
    · have h4' : decide (1 ≤ call) = false := by simp; omega
      go_enter Try.func6, Try.ntmps6
      go_wp2
      go_ret
      exact ⟨ret_bool (by rw [E.out]), (Below.refl _ _).alloc (Nat.le_refl _) _⟩
    · have h4' : decide (1 ≤ call) = true := by simp; omega
      have h5' : decide (call ≤ 3) = false := by simp; omega
      clear h1 h2 h3 h4
      go_enter Try.func6, Try.ntmps6
      go_wp2
      go_ret
      exact ⟨ret_bool (by rw [E.out]), (Below.refl _ _).alloc (Nat.le_refl _) _⟩
  all_goals
    unfold canB
    generalize canI k n = x at HC bd
    rcases wild_cases bd.1 bd.2 with rfl | rfl | rfl | rfl | rfl | rfl | rfl | rfl
    all_goals
      clear bd
      go_enter Try.func6, Try.ntmps6
      go_wp2_with fail
      refine (HC.out _).mono ?_
      rintro e w1 ⟨rfl, b1⟩
      have B1 : Hid (Below w.heap.size w w1) := ((Below.refl _ _).alloc (Nat.le_refl _) _).trans (b1.mono (by simp))
      clear b1
      go_wp2
      go_ret
      exact ⟨ret_bool (by decide), B1.out⟩
end Go.Proofs.Ytbpmcabeghbalaa
