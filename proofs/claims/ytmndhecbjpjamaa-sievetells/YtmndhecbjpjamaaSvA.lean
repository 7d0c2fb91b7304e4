/- Package sieve: messages that a call makes; goIn, goOut, stop. -/
import Derived.Test.YtmndhecbjpjamaaMsgK
namespace Go.Proofs.Ytmndhecbjpjamaa
open Go.RowKit

/-- A message of a call's own: it lies there, its lists from a block on. -/
structure New (base : Nat) (w : World) (v : Value) (m : Ms) : Prop where
  lies : MsAt w v m
  low : From base v
theorem New.shape {base : Nat} {w : World} {v : Value} {m : Ms} (h : New base w v m) : ∃ ao c bo d, v = .agg #[.int .i64 m.st, .string m.path, .slice ao m.heads.length c, .slice bo m.body.size d] := by
  obtain ⟨⟨ao, c, bo, d, rfl, _⟩, _, _⟩ := h.lies
  exact ⟨ao, c, bo, d, rfl⟩
theorem New.set {base : Nat} {w : World} {v : Value} {m : Ms} (h : New base w v m) {a : Addr} (ha : a.block < base) (u : Value) : New base (w.setCell a u) v m := ⟨h.lies.low h.low ha u, h.low⟩
theorem New.mono {base b : Nat} {w : World} {v : Value} {m : Ms} (h : New base w v m) (hb : b ≤ base) : New b w v m := ⟨h.lies, h.low.mono hb⟩
theorem New.below {base : Nat} {w w' : World} {v : Value} {m : Ms} (h : New base w v m) (b : Below w.heap.size w w') : New base w' v m := ⟨h.lies.below (Nat.le_refl _) b, h.low⟩

/-- Own, whatever message. -/
theorem own_new (m : Ms) (v : Value) (w : World) (hm : MsAt w v m) :
    Calls Try.prog 27 #[v] w fun e w' => ∃ v', e = .returned v' ∧ New w.heap.size w' v' m ∧ Below w.heap.size w w' := by
  obtain ⟨⟨_, _, _, _, _, a1, a2, _⟩, hp, R⟩ := id hm
  refine (own_any m v w hm).mono ?_
  rintro e w1 ⟨ao, c, bo, d, rfl, ow, bl⟩
  exact ⟨_, rfl, ⟨msAt_of_owns ow hp R a1.small a1.size a2.small, from_owns ow⟩, bl⟩

/-- Two boxes of a call's own. -/
theorem below2 (w : World) (o o' : Obj) : Below w.heap.size w ((w.alloc o).alloc o') := ((Below.refl _ _).alloc (Nat.le_refl _) _).alloc (by simp) _

set_option maxHeartbeats 1000000 in
theorem goIn_any (m : Ms) (v : Value) (g : Int) (w : World) (hm : MsAt w v m) :
    Calls Try.prog 18 #[v, .int .i64 g] w fun e w' => ∃ v', e = .returned (.tuple #[.int .i64 0, v', .int .i64 g]) ∧ New w.heap.size w' v' m ∧ Below w.heap.size w w' := by
  have hm' := fun o o' => hm.below (Nat.le_refl _) (below2 w o o')
  obtain ⟨⟨ao0, c0, bo0, d0, rfl, _⟩, _, _⟩ := hm
  go_enter Try.func18, Try.ntmps18
  go_wp2_with fail
  refine (own_new m _ _ (hm' _ _)).mono ?_
  rintro e w1 ⟨v', rfl, nw, bl⟩
  obtain ⟨ao, c, bo, d, rfl⟩ := nw.shape
  have bl2 : Below (w.heap.size + 2) _ w1 := bl.mono (by simp)
  obtain ⟨hc1, hf1, hd1, he1⟩ := box2 bl2
  have hs1 := bl2.size
  simp at hs1
  have NW : Hid (New (w.heap.size + 2) w1 _ m) := nw.mono (by simp)
  have BL : Hid (Below w.heap.size w w1) := (below2 w _ _).trans (bl2.mono (by omega))
  clear nw bl bl2 hm'
  go_wp2
  refine bodyPost_ret (v := .tuple #[.int .i64 0, .agg #[.int .i64 m.st, .string m.path, .slice ao m.heads.length c, .slice bo m.body.size d], .int .i64 g]) (by simp [results, Try.results18, go_sem, hd1]) rfl ⟨_, rfl, ?_, ?_⟩
  · refine New.mono (base := w.heap.size + 2) ?_ (by omega)
    iterate 4 (refine New.set ?_ (by simp) _)
    exact NW.out
  · iterate 4 (refine Below.setCell ?_ (by simp) _)
    exact BL.out

set_option maxHeartbeats 1000000 in
theorem goOut_any (m : Ms) (v : Value) (w : World) (hm : MsAt w v m) :
    Calls Try.prog 22 #[v] w fun e w' => ∃ v', e = .returned (.tuple #[.int .i64 0, v']) ∧ New w.heap.size w' v' m ∧ Below w.heap.size w w' := by
  have hm' := fun o o' => hm.below (Nat.le_refl _) (below2 w o o')
  obtain ⟨⟨ao0, c0, bo0, d0, rfl, _⟩, _, _⟩ := hm
  go_enter Try.func22, Try.ntmps22
  go_wp2_with fail
  refine (own_new m _ _ (hm' _ _)).mono ?_
  rintro e w1 ⟨v', rfl, nw, bl⟩
  obtain ⟨ao, c, bo, d, rfl⟩ := nw.shape
  have bl2 : Below (w.heap.size + 2) _ w1 := bl.mono (by simp)
  obtain ⟨hc1, hf1, hd1, he1⟩ := box2 bl2
  have hs1 := bl2.size
  simp at hs1
  have NW : Hid (New (w.heap.size + 2) w1 _ m) := nw.mono (by simp)
  have BL : Hid (Below w.heap.size w w1) := (below2 w _ _).trans (bl2.mono (by omega))
  clear nw bl bl2 hm'
  go_wp2
  refine bodyPost_ret (v := .tuple #[.int .i64 0, .agg #[.int .i64 m.st, .string m.path, .slice ao m.heads.length c, .slice bo m.body.size d]]) (by simp [results, Try.results22, go_sem, hd1]) rfl ⟨_, rfl, ?_, ?_⟩
  · refine New.mono (base := w.heap.size + 2) ?_ (by omega)
    iterate 4 (refine New.set ?_ (by simp) _)
    exact NW.out
  · iterate 4 (refine Below.setCell ?_ (by simp) _)
    exact BL.out

/-- A plain answer, as data. -/
def sayM (st : Int) (s : ByteArray) : Ms := ⟨st, ⟨#[]⟩, [], s⟩

theorem answer_new (st : Int) (s : ByteArray) (w : World) (hs : s.size ≤ 140737488351232) :
    Calls Try.prog 58 #[.int .i64 st, .string s] w fun e w' => ∃ v', e = .returned v' ∧ New w.heap.size w' v' (sayM st s) ∧ Below w.heap.size w w' := by
  refine (answer_any st s w hs).mono ?_
  rintro e w1 ⟨bo, d, rfl, ms, fr, bl⟩
  exact ⟨_, rfl, ⟨ms, fr⟩, bl⟩

set_option maxHeartbeats 1000000 in
theorem stop_any (st : Int) (s : ByteArray) (g : Int) (w : World) (hs : s.size ≤ 140737488351232) :
    Calls Try.prog 57 #[.int .i64 st, .string s, .int .i64 g] w fun e w' => ∃ v', e = .returned (.tuple #[.int .i64 1, v', .int .i64 g]) ∧ New w.heap.size w' v' (sayM st s) ∧ Below w.heap.size w w' := by
  have HS : Hid (s.size ≤ 140737488351232) := hs
  clear hs
  go_enter Try.func57, Try.ntmps57
  go_wp2_with fail
  refine (answer_new st s _ HS.out).mono ?_
  rintro e w1 ⟨v', rfl, nw, bl⟩
  obtain ⟨ao, c, bo, d, rfl⟩ := nw.shape
  have hd1 := fun j => bl.cell (p := ⟨w.heap.size, j, none⟩) (by simp)
  have he1 := fun j => bl.frozen (p := ⟨w.heap.size, j, none⟩) (by simp)
  have hs1 := bl.size
  simp at hs1
  have NW : Hid (New (w.heap.size + 1) w1 _ (sayM st s)) := nw.mono (by simp)
  have BL : Hid (Below w.heap.size w w1) := ((Below.refl _ _).alloc (Nat.le_refl _) _).trans (bl.mono (by simp))
  clear nw bl
  go_wp2
  refine bodyPost_ret (v := .tuple #[.int .i64 1, .agg #[.int .i64 (sayM st s).st, .string (sayM st s).path, .slice ao (sayM st s).heads.length c, .slice bo (sayM st s).body.size d], .int .i64 g]) (by simp [results, Try.results57, go_sem, hd1]) rfl ⟨_, rfl, ?_, ?_⟩
  · refine New.mono (base := w.heap.size + 1) ?_ (by omega)
    iterate 4 (refine New.set ?_ (by simp) _)
    exact NW.out
  · iterate 4 (refine Below.setCell ?_ (by simp) _)
    exact BL.out
end Go.Proofs.Ytmndhecbjpjamaa
