/- Leases that are given back, as data; a world and a list of numbers, side by side. -/
import Derived.Test.YtnhndieoaceofaaPoolK
namespace Go.Proofs.Ytnhndieoaceofaa
open Go.RowKit

/-- What giving the lease of the n-th one comes to. -/
theorem give_st (m : Int) (hv qs : List Int) (n : Nat) (hn : n < hv.length) (hd : hv.Nodup) : giveE (stW m hv qs).lg hv[n] 2 = 0 ∧ giveR (stW m hv qs).lg hv[n] 2 = (stW m (hv.take n ++ hv.drop (n + 1)) qs).lg := by
  have e : (stW m hv qs).lg.holds = (hv.take n).map leaseH ++ leaseH hv[n] :: (hv.drop (n + 1)).map leaseH := by
    show hv.map leaseH = _
    rw [← List.map_cons, ← List.map_append, ← List.drop_eq_getElem_cons hn, List.take_append_drop]
  have hx : hv[n] ∉ hv.drop (n + 1) := by
    have h := hd
    rw [← List.take_append_drop n hv, List.drop_eq_getElem_cons hn] at h
    exact (List.nodup_cons.1 (List.nodup_append.1 h).2.1).1
  obtain ⟨h1, h2⟩ := giveR_at (stW m hv qs).lg hv[n] 2 _ _ _ e (by simp [isOf, leaseH]) (fun h hh => by
    obtain ⟨i, hi, rfl⟩ := List.mem_map.1 hh
    have : i ≠ hv[n] := fun q => hx (by rw [← q]; exact hi)
    simp [isOf, leaseH, this])
  refine ⟨h1, ?_⟩
  rw [h2, ← List.map_append]
  rfl
theorem back_st_none (m : Int) (hv : List Int) (n : Nat) (hn : n < hv.length) (hd : hv.Nodup) : backN (stW m hv []) hv[n] = -1 ∧ backR (stW m hv []) hv[n] = stW m (hv.take n ++ hv.drop (n + 1)) [] := by
  obtain ⟨h1, h2⟩ := give_st m hv [] n hn hd
  unfold backN backR
  rw [if_pos h1, if_pos h1, h2]
  exact ⟨rfl, rfl⟩
theorem back_st_next (m : Int) (hv : List Int) (q : Int) (t : List Int) (n : Nat) (hn : n < hv.length) (hd : hv.Nodup) (hm : (hv.length : Int) ≤ m) : backN (stW m hv (q :: t)) hv[n] = q ∧ backR (stW m hv (q :: t)) hv[n] = stW m (hv.take n ++ hv.drop (n + 1) ++ [q]) t := by
  obtain ⟨h1, h2⟩ := give_st m hv (q :: t) n hn hd
  have hl : ¬ m ≤ ((hv.take n ++ hv.drop (n + 1)).length : Int) := by
    rw [List.length_append, List.length_take, List.length_drop]
    omega
  have ht : takeE (giveR (stW m hv (q :: t)).lg hv[n] 2) 2 = 0 := by rw [h2, takeE_st, if_neg hl]
  have hr : takeR (giveR (stW m hv (q :: t)).lg hv[n] 2) q 2 (-1) = (stW m (hv.take n ++ hv.drop (n + 1) ++ [q]) (q :: t)).lg := by rw [h2, takeR_st _ _ _ _ hl]
  unfold backN backR
  rw [if_pos h1, if_pos h1]
  show (if takeE (giveR (stW m hv (q :: t)).lg hv[n] 2) 2 = 0 then q else -1) = q ∧ (if takeE (giveR (stW m hv (q :: t)).lg hv[n] 2) 2 = 0 then ({ stW m hv (q :: t) with lg := takeR (giveR (stW m hv (q :: t)).lg hv[n] 2) q 2 (-1), queue := t } : Wd) else _) = _
  rw [if_pos ht, if_pos ht, hr]
  exact ⟨rfl, rfl⟩

theorem WdLies.grown {wr wr' : World} {W : Wd} {A : Ad} {row : Option Nat} (h : WdLies wr W A) (hg : wr.grownBy wr' row) (ho : ∀ k, row = some k → Off W A k) : WdLies wr' W A := by
  cases row with
  | none => exact h.below (Nat.le_refl _) ((Below.refl _ _).grown hg (Nat.le_refl _) (fun k hk => by cases hk))
  | some k => exact h.far2 hg.size (fun i j hi hne => World.cell?_of_block (w := wr) (a := ⟨i, j, none⟩) (hg.block i hi (fun e => hne (Option.some.inj e)))) (ho k rfl)
theorem Box9.grown {wr wr' : World} {b : Nat} {row : Option Nat} {v0 v1 v2 v3 v4 v5 v6 v7 v8 : Value} (h : Box9 wr b v0 v1 v2 v3 v4 v5 v6 v7 v8) (hg : wr.grownBy wr' row) (hne : row ≠ some b) : Box9 wr' b v0 v1 v2 v3 v4 v5 v6 v7 v8 := by
  have hb := hg.block b h.lt (fun e => hne e.symm)
  exact h.farC (fun j => World.cell?_of_block (w := wr) (a := ⟨b, j, none⟩) hb) (fun j => World.frozen?_of_block (w := wr) (a := ⟨b, j, none⟩) hb) hg.size
/-- The world in its box, and a row of numbers of the call's own that no list of it lies in. -/
structure TurnAt (w wr : World) (b : Nat) (W : Wd) (A : Ad) (ha : Option Addr) (hc : Nat) (hv : List Int) : Prop where
  lp : LoopAt w wr b W A
  ow : wr.ownsRow (b + 1) 3 1 (.slice ha hv.length hc) hv.length (icells hv)
  oh : ∀ k, (Value.slice ha hv.length hc).ownBlock = some k → Off W A k
theorem TurnAt.keep {w wr wr' : World} {b hc : Nat} {W : Wd} {A : Ad} {ha : Option Addr} {hv : List Int} (h : TurnAt w wr b W A ha hc hv) (hb : Below wr.heap.size wr wr') : TurnAt w wr' b W A ha hc hv :=
  ⟨h.lp.keep hb, owns_below h.ow hb, h.oh⟩
/-- Another world is laid into the box. -/
theorem TurnAt.set {w wr : World} {b hc : Nat} {W N : Wd} {A B : Ad} {ha : Option Addr} {hv : List Int} (h : TurnAt w wr b W A ha hc hv) (hn : WdLies wr N B) (ho : Off N B b) (oh : ∀ k, (Value.slice ha hv.length hc).ownBlock = some k → Off N B k) : TurnAt w (set9 wr b (.slice B.ho N.lg.holds.length B.hc) (.int .i64 N.lg.m0) (.int .i64 N.lg.m1) (.int .i64 N.lg.m2) (.int .i64 N.lg.m3) (.slice B.ga N.gates.length B.gc) (.slice B.fa N.failed.length B.fc) (.slice B.qa N.queue.length B.qc) (.slice B.ma N.marks.length B.mc)) b N B ha hc hv :=
  ⟨h.lp.set hn ho, owns_set9 h.ow (by omega) _ _ _ _ _ _ _ _ _, oh⟩
/-- The row becomes another one. -/
theorem TurnAt.row {w wr wr' : World} {b hc hc' : Nat} {W : Wd} {A : Ad} {ha ha' : Option Addr} {hv hv' : List Int} (h : TurnAt w wr b W A ha hc hv) (hl : LoopAt w wr' b W A) (ow : wr'.ownsRow (b + 1) 3 1 (.slice ha' hv'.length hc') hv'.length (icells hv')) (hn : ∀ k, (Value.slice ha' hv'.length hc').ownBlock = some k → (Value.slice ha hv.length hc).ownBlock = some k ∨ wr.heap.size ≤ k) : TurnAt w wr' b W A ha' hc' hv' :=
  ⟨hl, ow, fun k hk => by
    rcases hn k hk with h1 | h1
    · exact h.oh k h1
    · exact h.lp.ib.ld.off h1⟩
theorem LoopAt.grown {w wr wr' : World} {b : Nat} {W : Wd} {A : Ad} {row : Option Nat} (h : LoopAt w wr b W A) (hg : wr.grownBy wr' row) (hr : ∀ k, row = some k → b + 1 ≤ k ∧ Off W A k) : LoopAt w wr' b W A :=
  ⟨⟨Box9.grown h.ib.bx hg (fun e => by have := (hr b e).1; omega), h.ib.ld.grown hg (fun k hk => (hr k hk).2)⟩, h.bl.grown hg h.bl.size (fun k hk => by have := (hr k hk).1; have := h.lt; omega), h.lt, h.o⟩
end Go.Proofs.Ytnhndieoaceofaa
