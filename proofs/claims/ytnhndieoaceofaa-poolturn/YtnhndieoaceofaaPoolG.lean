/- Giving a lease back: where pool.Back stands between its steps. -/
import Derived.Test.YtnhndieoaceofaaPoolF
namespace Go.Proofs.Ytnhndieoaceofaa
open Go.RowKit

theorem Box5.below {W W' : World} {B b : Nat} {v0 v1 v2 v3 v4 : Value} (h : Box5 W b v0 v1 v2 v3 v4) (hb : Below B W W') (hB : b < B) : Box5 W' b v0 v1 v2 v3 v4 := by
  have e := fun j => hb.cell (p := ⟨b, j, none⟩) hB
  exact ⟨by rw [e]; exact h.c0, by rw [e]; exact h.c1, by rw [e]; exact h.c2, by rw [e]; exact h.c3, by rw [e]; exact h.c4, fun j => by rw [hb.frozen (p := ⟨b, j, none⟩) hB]; exact h.fz j, Nat.lt_of_lt_of_le h.lt hb.size⟩
theorem Box5.far {W W' : World} {b : Nat} {v0 v1 v2 v3 v4 : Value} (h : Box5 W b v0 v1 v2 v3 v4) (e : ∀ j, W'.cell? ⟨b, j, none⟩ = W.cell? ⟨b, j, none⟩) (hf : ∀ j, W'.frozen? ⟨b, j, none⟩ = W.frozen? ⟨b, j, none⟩) (hz : W.heap.size ≤ W'.heap.size) : Box5 W' b v0 v1 v2 v3 v4 :=
  ⟨by rw [e]; exact h.c0, by rw [e]; exact h.c1, by rw [e]; exact h.c2, by rw [e]; exact h.c3, by rw [e]; exact h.c4, fun j => by rw [hf]; exact h.fz j, Nat.lt_of_lt_of_le h.lt hz⟩
theorem Box5.set {W : World} {b : Nat} {v0 v1 v2 v3 v4 : Value} (h : Box5 W b v0 v1 v2 v3 v4) (L : Lg) (al : Option Addr) (cl : Nat) : Box5 (set5 W b L al cl) b (.slice al L.holds.length cl) (.int .i64 L.m0) (.int .i64 L.m1) (.int .i64 L.m2) (.int .i64 L.m3) := by
  obtain ⟨c0, c1, c2, c3, c4, fz, lt⟩ := h
  refine ⟨?_, ?_, ?_, ?_, ?_, fun j => by rw [set5_frozen]; exact fz j, by rw [set5_size]; exact lt⟩ <;> unfold set5 <;> simp [go_sem, c0, c1, c2, c3, c4]
theorem Box5.made {W : World} {n : Nat} (hn : W.heap.size = n) (t : TypeId) (v0 v1 v2 v3 v4 : Value) : Box5 (W.alloc (.cells #[v0, v1, v2, v3, v4] t)) n v0 v1 v2 v3 v4 := by
  subst hn
  exact ⟨by simp, by simp, by simp, by simp, by simp, fun j => by simp, by simp⟩

/-- The world, the answer's box, and a ledger in a box of its own. -/
structure BackAt (w wr : World) (b lb : Nat) (W : Wd) (A : Ad) (L : Lg) (al : Option Addr) (cl : Nat) : Prop where
  bx : WBox wr b W A
  zx : ZBox wr (b + 1)
  lx : Box5 wr lb (.slice al L.holds.length cl) (.int .i64 L.m0) (.int .i64 L.m1) (.int .i64 L.m2) (.int .i64 L.m3)
  ld : WdLies wr W A
  hl : HoldsAt wr al L.holds
  hk : Cap al L.holds.length cl
  bl : Below b w wr
  lt : b + 1 < lb
  o : ∀ X, X = b ∨ X = b + 1 ∨ X = lb → Off W A X
  ol : ∀ X, X = b ∨ X = b + 1 ∨ X = lb → ∀ k off, L.holds ≠ [] → al = some ⟨k, off, none⟩ → k ≠ X
theorem BackAt.keep {w wr wr' : World} {b lb cl : Nat} {W : Wd} {A : Ad} {L : Lg} {al : Option Addr} (h : BackAt w wr b lb W A L al cl) (hb : Below wr.heap.size wr wr') : BackAt w wr' b lb W A L al cl :=
  ⟨Box9.keep h.bx hb, Box9.keep h.zx hb, h.lx.keep hb, h.ld.below (Nat.le_refl _) hb, h.hl.below (Nat.le_refl _) hb, h.hk, h.bl.trans (hb.mono (Nat.le_of_lt h.bx.lt)), h.lt, h.o, h.ol⟩
/-- The world is one's own from now on. -/
theorem BackAt.own {w wr wr' : World} {b lb cl : Nat} {W : Wd} {A A2 : Ad} {L : Lg} {al : Option Addr} (h : BackAt w wr b lb W A L al cl) (hb : Below wr.heap.size wr wr') (hl : WdLies wr' W A2) (ho : ∀ X, X < wr.heap.size → Off W A2 X) : BackAt w (set9 wr' b (.slice A2.ho W.lg.holds.length A2.hc) (.int .i64 W.lg.m0) (.int .i64 W.lg.m1) (.int .i64 W.lg.m2) (.int .i64 W.lg.m3) (.slice A2.ga W.gates.length A2.gc) (.slice A2.fa W.failed.length A2.fc) (.slice A2.qa W.queue.length A2.qc) (.slice A2.ma W.marks.length A2.mc)) b lb W A2 L al cl := by
  have k := h.keep hb
  have hlt := h.lt
  have hll := h.lx.lt
  exact ⟨Box9.set k.bx _ _ _ _ _ _ _ _ _, Box9.far k.zx (by omega) _ _ _ _ _ _ _ _ _, k.lx.far (fun j => set9_far (by omega)) (fun j => set9_frozen _ _ _ _ _ _ _ _ _ _ _ _) (by rw [set9_size]; exact Nat.le_refl _), Wd.far9 hl (ho b (by omega)), k.hl.far (by rw [set9_size]; exact Nat.le_refl _) (fun k j hk => set9_far hk) (h.ol b (.inl rfl)), h.hk, set9_below k.bl (Nat.le_refl _), h.lt, fun X hX => ho X (by omega), h.ol⟩
/-- The ledger is the world's from now on. -/
theorem BackAt.put {w wr : World} {b lb cl : Nat} {W : Wd} {A : Ad} {L : Lg} {al : Option Addr} (h : BackAt w wr b lb W A L al cl) : BackAt w (set5 wr b L al cl) b lb { W with lg := L } { A with ho := al, hc := cl } L al cl := by
  have hlt := h.lt
  have ld : WdLies wr { W with lg := L } { A with ho := al, hc := cl } := { h.ld with h := h.hl, hk := h.hk }
  have o : ∀ X, X = b ∨ X = b + 1 ∨ X = lb → Off { W with lg := L } { A with ho := al, hc := cl } X := fun X h1 => { h.o X h1 with h := h.ol X h1 }
  exact ⟨Box9.set5 h.bx _ _ _, Box9.far5 h.zx (by omega) _ _ _, h.lx.far (fun j => set5_far (by omega)) (fun j => set5_frozen _ _ _ _ _ _) (by rw [set5_size]; exact Nat.le_refl _), ld.far (by rw [set5_size]; exact Nat.le_refl _) (fun k j hk => set5_far hk) (o b (.inl rfl)), h.hl.far (by rw [set5_size]; exact Nat.le_refl _) (fun k j hk => set5_far hk) (h.ol b (.inl rfl)), h.hk, set5_below' h.bl (Nat.le_refl _), h.lt, o, h.ol⟩
/-- Another ledger lies in its box. -/
theorem BackAt.setl {w wr : World} {b lb cl cN : Nat} {W : Wd} {A : Ad} {L N : Lg} {al aN : Option Addr} (h : BackAt w wr b lb W A L al cl) (hN : HoldsAt wr aN N.holds) (kN : Cap aN N.holds.length cN) (oN : ∀ X, X = b ∨ X = b + 1 ∨ X = lb → ∀ k off, N.holds ≠ [] → aN = some ⟨k, off, none⟩ → k ≠ X) : BackAt w (set5 wr lb N aN cN) b lb W A N aN cN := by
  have hlt := h.lt
  exact ⟨Box9.far5 h.bx (by omega) _ _ _, Box9.far5 h.zx (by omega) _ _ _, Box5.set h.lx _ _ _, h.ld.far (by rw [set5_size]; exact Nat.le_refl _) (fun k j hk => set5_far hk) (h.o lb (.inr (.inr rfl))), hN.far (by rw [set5_size]; exact Nat.le_refl _) (fun k j hk => set5_far hk) (oN lb (.inr (.inr rfl))), kN, set5_below' h.bl (by omega), h.lt, h.o, oN⟩
theorem owns_below {w w' : World} {base n size : Nat} {e : TypeId} {v : Value} {xs : List Value} (h : w.ownsRow base e size v n xs) (hb : Below w.heap.size w w') : w'.ownsRow base e size v n xs :=
  h.kept (row := none) ⟨hb.os, hb.tape, hb.output, hb.size, fun k hk _ => hb.block k hk⟩ (by cases v.ownBlock with | none => exact .inl rfl | some k => exact .inr (by simp))
theorem owns_set5 {w : World} {base b n size : Nat} {e : TypeId} {v : Value} {xs : List Value} (h : w.ownsRow base e size v n xs) (hb : b < base) (l : Lg) (ao : Option Addr) (c : Nat) : (set5 w b l ao c).ownsRow base e size v n xs := by
  unfold set5
  iterate 5 (refine ownsRow_setCell_below ?_ hb _)
  exact h

def backN (W : Wd) (id : Int) : Int := if giveE W.lg id 2 = 0 then (match W.queue with | [] => -1 | q :: _ => if takeE (giveR W.lg id 2) 2 = 0 then q else -1) else -1
def backR (W : Wd) (id : Int) : Wd := if giveE W.lg id 2 = 0 then (match W.queue with | [] => { W with lg := giveR W.lg id 2 } | q :: t => if takeE (giveR W.lg id 2) 2 = 0 then { W with lg := takeR (giveR W.lg id 2) q 2 (-1), queue := t } else { W with lg := giveR W.lg id 2 }) else zeroWd
end Go.Proofs.Ytnhndieoaceofaa
