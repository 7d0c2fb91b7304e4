/- What is held, as it lies in memory; two lists of it compared, two ledgers compared. -/
import Derived.Test.YtnhndieoaceofaaChecked
import Derived.WalkKit
import Derived.Below
import Derived.OwnWalk
import Derived.Laws.StructEq
import Derived.Deep.QuietTactic
import Derived.BigQuiet
import Derived.KernelRfl
namespace Go.Proofs.Ytnhndieoaceofaa
open Go.RowKit

structure Ho where
  id : Int
  kind : Int
  filter : Int

/-- A slice of holds, as it lies in a world. -/
structure HoldsAt (w : World) (ao : Option Addr) (hs : List Ho) : Prop where
  lies : ∀ i (h : i < hs.length), ∃ b off, ao = some ⟨b, off, none⟩ ∧ b < w.heap.size ∧ w.cell? ⟨b, off + i * 3, none⟩ = some (.int .i64 hs[i].id) ∧ w.cell? ⟨b, off + i * 3 + 1, none⟩ = some (.int .i64 hs[i].kind) ∧ w.cell? ⟨b, off + i * 3 + 2, none⟩ = some (.int .i64 hs[i].filter)
  small : hs.length ≤ maxLen
theorem HoldsAt.below {w w' : World} {B : Nat} {ao : Option Addr} {hs : List Ho} (h : HoldsAt w ao hs) (hB : w.heap.size ≤ B) (hb : Below B w w') : HoldsAt w' ao hs where
  lies i hi := by
    obtain ⟨b, off, h1, h2, h3, h4, h5⟩ := h.lies i hi
    have hsz := hb.size
    have e := fun j => hb.cell (p := ⟨b, j, none⟩) (by show b < B; omega)
    exact ⟨b, off, h1, by omega, by rw [e]; exact h3, by rw [e]; exact h4, by rw [e]; exact h5⟩
  small := h.small

/-- A ledger as data, and as it lies. -/
structure Lg where
  holds : List Ho
  m0 : Int
  m1 : Int
  m2 : Int
  m3 : Int
def lgV (l : Lg) (ao : Option Addr) (c : Nat) : Value := .agg #[.slice ao l.holds.length c, .int .i64 l.m0, .int .i64 l.m1, .int .i64 l.m2, .int .i64 l.m3]
def LgAt (w : World) (v : Value) (l : Lg) : Prop := ∃ ao c, v = lgV l ao c ∧ HoldsAt w ao l.holds ∧ (ao = none → c = 0) ∧ l.holds.length ≤ c ∧ c ≤ maxLen
theorem LgAt.below {w w' : World} {B : Nat} {v : Value} {l : Lg} (h : LgAt w v l) (hB : w.heap.size ≤ B) (hb : Below B w w') : LgAt w' v l := by
  obtain ⟨ao, c, e, h1, h2⟩ := h
  exact ⟨ao, c, e, h1.below hB hb, h2⟩

theorem ret_bool {a b : Bool} (h : a = b) : Ending.returned (.bool a) = .returned (.bool b) := by rw [h]
theorem belDrewN {B : Nat} {a w : World} (h : Below B a w) (n : Nat) : Below B a (w.drewN n) := h.trans ⟨rfl, rfl, rfl, Nat.le_refl _, fun _ _ => rfl⟩
theorem Try.held27 : Try.prog.stoodInHeld 52 = false := by kernel_rfl
theorem Try.guard27 : Try.prog.eqGuardType Try.prog.depth 52 = false := by kernel_rfl
theorem ho_ext {x y : Ho} (h1 : x.id = y.id) (h2 : x.kind = y.kind) (h3 : x.filter = y.filter) : x = y := by cases x; cases y; simp_all
/-- Two lists of holds, the same or not. -/
def hoB (a b : Ho) : Bool := (a.id == b.id) && ((a.kind == b.kind) && (a.filter == b.filter))
def hsB : List Ho → List Ho → Bool
  | [], [] => true
  | a :: s, b :: t => hoB a b && hsB s t
  | _, _ => false
theorem hoB_true (a b : Ho) : hoB a b = true ↔ a = b := by
  unfold hoB
  simp only [Bool.and_eq_true, beq_iff_eq]
  exact ⟨fun ⟨h1, h2, h3⟩ => ho_ext h1 h2 h3, fun h => by subst h; exact ⟨rfl, rfl, rfl⟩⟩
theorem hsB_true : ∀ x y : List Ho, hsB x y = true ↔ x = y
  | [], [] => by simp [hsB]
  | [], _ :: _ => by simp [hsB]
  | _ :: _, [] => by simp [hsB]
  | a :: s, b :: t => by
    simp only [hsB, Bool.and_eq_true, hoB_true, hsB_true s t, List.cons.injEq]
theorem hsB_false (x y : List Ho) : hsB x y = false ↔ ¬ x = y := by
  rw [← hsB_true]
  cases hsB x y <;> simp

set_option maxHeartbeats 1000000 in
theorem sameHolds_any (x y : List Ho) (ao bo : Option Addr) (c d : Nat) (w : World) (hx : HoldsAt w ao x) (hy : HoldsAt w bo y) :
    Calls Try.prog 24 #[.slice ao x.length c, .slice bo y.length d] w fun e w' => e = .returned (.bool (hsB x y)) ∧ ∃ n, w' = w.drewN n := by
  have hsx := hx.small
  have hsy := hy.small
  unfold maxLen at hsx hsy
  generalize hr : hsB x y = r
  have HR : Hid (hsB x y = r) := hr
  clear hr
  by_cases hl : x.length = y.length
  · have hl' : ((x.length : Int) != (y.length : Int)) = false := by simp [hl]
    have HL : Hid (x.length = y.length) := hl
    clear hl
    go_enter Try.func24, Try.ntmps24
    go_wp2
    go_loopw [13] (fun i wr => ∃ k n : Nat, k ≤ x.length ∧ i = .int .i64 k ∧ wr = w.drewN n ∧ Hid (∀ i (h : i < x.length) (h' : i < y.length), i < k → x[i] = y[i])) (fun i _ => x.length - (intOf i).toNat)
    case atStart => exact ⟨0, 0, by omega, rfl, rfl, fun _ _ _ h => absurd h (by omega)⟩
    case round =>
      obtain ⟨k, n, hk, rfl, rfl, HN⟩ := hrel
      by_cases hlt : k < x.length
      · have hlt2 : k < y.length := by rw [← HL.out]; exact hlt
        obtain ⟨b, off, rfl, hb, h0, h1, h2⟩ := hx.lies k hlt
        obtain ⟨b', off', rfl, hb', h0', h1', h2'⟩ := hy.lies k hlt2
        have i1 : (k : Int) < (x.length : Int) := by omega
        have i2 : (k : Int) < (y.length : Int) := by omega
        have q1 := Try.held27
        have q2 := Try.guard27
        by_cases e : x[k] = y[k]
        · have e1 : (x[k].id == y[k].id) = true := by rw [e]; simp
          have e2 : (x[k].kind == y[k].kind) = true := by rw [e]; simp
          have e3 : (x[k].filter == y[k].filter) = true := by rw [e]; simp
          have HE : Hid (x[k] = y[k]) := e
          clear e
          go_wp2
          go_quiet (fail)
          go_wp2
          go_roundw
          case rel => exact ⟨k + 1, n + nq, by omega, by go_num, by first | rfl | rw [World.drewN_drewN], fun i hi hi' hik => by
            by_cases e : i = k
            · subst e; exact HE.out
            · exact HN.out i hi hi' (by omega)⟩
          case measure => simp [intOf]; omega
        · have HE : Hid (x[k] ≠ y[k]) := e
          have hf : (x[k].id == y[k].id) = false ∨ (x[k].id == y[k].id) = true ∧ (x[k].kind == y[k].kind) = false ∨ (x[k].id == y[k].id) = true ∧ (x[k].kind == y[k].kind) = true ∧ (x[k].filter == y[k].filter) = false := by
            cases e1 : (x[k].id == y[k].id) with
            | false => exact .inl rfl
            | true =>
              cases e2 : (x[k].kind == y[k].kind) with
              | false => exact .inr (.inl ⟨rfl, rfl⟩)
              | true =>
                cases e3 : (x[k].filter == y[k].filter) with
                | false => exact .inr (.inr ⟨rfl, rfl, rfl⟩)
                | true => exact absurd (ho_ext (by simpa using e1) (by simpa using e2) (by simpa using e3)) e
          clear e
          rcases hf with e1 | ⟨e1, e2⟩ | ⟨e1, e2, e3⟩
          all_goals
            go_wp2
            go_quiet (fail)
            go_wp2
            go_ret
            exact ⟨ret_bool (by rw [← HR.out, eq_comm, hsB_false]; exact fun e => HE.out (by subst e; rfl)), n + nq, by first | rfl | rw [World.drewN_drewN]⟩
      · go_wp2
        go_ret
        exact ⟨ret_bool (by rw [← HR.out, eq_comm, hsB_true]; exact List.ext_getElem HL.out fun i h1 h2 => HN.out i h1 h2 (by omega)), n, rfl⟩
  · have hl' : ((x.length : Int) != (y.length : Int)) = true := by simp; omega
    go_enter Try.func24, Try.ntmps24
    go_wp2
    go_ret
    exact ⟨ret_bool (by rw [← HR.out, eq_comm, hsB_false]; exact fun e => hl (by rw [e])), 0, rfl⟩
end Go.Proofs.Ytnhndieoaceofaa
