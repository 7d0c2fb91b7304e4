/- Walks of Same: two messages in memory, compared. -/
import Derived.Test.YtlkfkhpokkjkpaaDoorMsgB
import Derived.Laws.BytesArg
import Derived.Laws.StructEq
import Derived.Deep.QuietTactic
import Derived.BigQuiet
namespace Go.Proofs.YtlkfkhpokkjkpaaDoor
open Go.RowKit

/-- A slice of bytes, as it lies in a world. -/
structure BytesAt (w : World) (ao : Option Addr) (bs : ByteArray) : Prop where
  lies : ∀ i (h : i < bs.size), ∃ b off, ao = some ⟨b, off, none⟩ ∧ b < w.heap.size ∧ w.cell? ⟨b, off + i, none⟩ = some (.int .u8 bs[i].toNat)
  plain : ao = none ∨ (∃ b off, ao = some ⟨b, off, none⟩) ∨ bs.size = 0
  small : bs.size ≤ maxLen

theorem BytesAt.below {w w' : World} {B : Nat} {ao : Option Addr} {bs : ByteArray} (h : BytesAt w ao bs) (hB : w.heap.size ≤ B) (hb : Below B w w') : BytesAt w' ao bs where
  lies i hi := by
    obtain ⟨b, off, h1, h2, h3⟩ := h.lies i hi
    have hsz := hb.size
    exact ⟨b, off, h1, by omega, by rw [hb.cell (p := ⟨b, off + i, none⟩) (by simp; omega)]; exact h3⟩
  plain := h.plain
  small := h.small

def numsOf (bs : ByteArray) : List Int := bs.data.toList.map fun b => (b.toNat : Int)
theorem numsOf_length (bs : ByteArray) : (numsOf bs).length = bs.size := by simp [numsOf]
theorem numsOf_getD (bs : ByteArray) (i : Nat) (h : i < bs.size) : (numsOf bs).getD i 0 = (bs[i].toNat : Int) := by
  have h' : i < bs.data.toList.length := by simpa using h
  simp [numsOf, List.getD, h]
  rfl
theorem str_numsOf (bs : ByteArray) : strOfNums (numsOf bs) = bs := by
  apply WideShapes.bytes_inj
  rw [strOfNums_data, numsOf, List.map_map]
  conv => rhs; rw [← List.map_id bs.data.toList]
  apply List.map_congr_left
  intro b _
  simp

theorem conv_body {w : World} {ao : Option Addr} {bs : ByteArray} (h : BytesAt w ao bs) (cap : Nat) :
    (convert 23 9 (.slice ao bs.size cap)).run Tryd.prog w = .ok (.string bs) w := by
  rcases h.plain with rfl | ⟨b, off, rfl⟩ | h0
  · have h0 : bs.size = 0 := by
      rcases Nat.eq_zero_or_pos bs.size with h0 | h0
      · exact h0
      · obtain ⟨_, _, e, _⟩ := h.lies 0 h0; cases e
    have hb : bs = ByteArray.empty := by
      apply WideShapes.bytes_inj; exact List.eq_nil_of_length_eq_zero (by simpa using h0)
    rw [hb]
    exact run_convert_bytes_nil w 23 5 Tryd.underlying23 Tryd.underlying5 _ _ 9 Tryd.underlying9
  · have := run_convert_bytes_arg (P := Tryd.prog) w 23 5 Tryd.underlying23 Tryd.underlying5 b off bs.size cap (numsOf bs) (numsOf_length bs) (fun i hi => by
      obtain ⟨b', off', e, _, hc⟩ := h.lies i hi
      simp only [Option.some.injEq, Addr.mk.injEq, and_true] at e
      obtain ⟨rfl, rfl⟩ := e
      rw [hc, numsOf_getD bs i hi]) 9 Tryd.underlying9
    rw [this, str_numsOf]
  · have hb : bs = ByteArray.empty := by
      apply WideShapes.bytes_inj; exact List.eq_nil_of_length_eq_zero (by simpa using h0)
    subst hb
    cases ao with
    | none => exact run_convert_bytes_nil w 23 5 Tryd.underlying23 Tryd.underlying5 _ _ 9 Tryd.underlying9
    | some a =>
      have hl : (loadCells a 0).run Tryd.prog w = .ok (([] : List Int).map (Value.int .u8)).toArray w := by
        have := run_loadCells_list (P := Tryd.prog) w a [] (fun j v hj => by simp at hj)
        simpa using this
      have h1 := run_bytesToString w a 0 cap [] hl
      rw [run_convert_bytes_string w 23 9 5 _ _ cap Tryd.underlying23 Tryd.underlying5 Tryd.underlying9]
      exact h1

set_option maxHeartbeats 400000 in
theorem bytesEqual_any (x y : ByteArray) (ao bo : Option Addr) (c d : Nat) (w : World) (hx : BytesAt w ao x) (hy : BytesAt w bo y) :
    Calls Tryd.prog 48 #[.slice ao x.size c, .slice bo y.size d] w fun e w' => e = .returned (.bool (x.toList == y.toList)) ∧ w' = w := by
  have h1 := conv_body hx c
  have h2 := conv_body hy d
  go_enter Tryd.func48, Tryd.ntmps48
  go_wp2
  go_ret
  exact ⟨rfl, rfl⟩

theorem Tryd.held45 : Tryd.prog.stoodInHeld 52 = false := by kernel_rfl
theorem Tryd.guard45 : Tryd.prog.eqGuardType Tryd.prog.depth 52 = false := by kernel_rfl

set_option maxHeartbeats 1000000 in
theorem headsEqual_any (x y : List Hd) (ao bo : Option Addr) (c d : Nat) (w : World) (hx : HeadsAt w ao x) (hy : HeadsAt w bo y) :
    Calls Tryd.prog 47 #[.slice ao x.length c, .slice bo y.length d] w fun e w' => e = .returned (.bool (decide (x = y))) ∧ ∃ n, w' = w.drewN n := by
  have hsx := hx.small
  have hsy := hy.small
  unfold maxLen at hsx hsy
  generalize hr : decide (x = y) = r
  have HR : Hid (decide (x = y) = r) := hr
  clear hr
  by_cases hl : x.length = y.length
  · have hl' : ((x.length : Int) != (y.length : Int)) = false := by simp [hl]
    have HL : Hid (x.length = y.length) := hl
    clear hl
    go_enter Tryd.func47, Tryd.ntmps47
    go_wp2
    go_loopw [13] (fun i wr => ∃ k n : Nat, k ≤ x.length ∧ i = .int .i64 k ∧ wr = w.drewN n ∧ Hid (∀ i (h : i < x.length) (h' : i < y.length), i < k → x[i] = y[i])) (fun i _ => x.length - (intOf i).toNat)
    case atStart => exact ⟨0, 0, by omega, rfl, rfl, fun _ _ _ h => absurd h (by omega)⟩
    case round =>
      obtain ⟨k, n, hk, rfl, rfl, HN⟩ := hrel
      by_cases hlt : k < x.length
      · have hlt2 : k < y.length := by rw [← HL.out]; exact hlt
        obtain ⟨b, off, rfl, hb, h0, h1⟩ := hx.lies k hlt
        obtain ⟨b', off', rfl, hb', h0', h1'⟩ := hy.lies k hlt2
        have i1 : (k : Int) < (x.length : Int) := by omega
        have i2 : (k : Int) < (y.length : Int) := by omega
        have q1 := Tryd.held45
        have q2 := Tryd.guard45
        by_cases e1 : x[k].1 = y[k].1
        · have e1' : (x[k].1.toList == y[k].1.toList) = true := by rw [e1]; simp
          by_cases e2 : x[k].2 = y[k].2
          · have e2' : (x[k].2.toList == y[k].2.toList) = true := by rw [e2]; simp
            have HE : Hid (x[k] = y[k]) := Prod.ext e1 e2
            clear e1 e2
            go_wp2
            go_quiet (fail)
            go_wp2
            go_roundw
            case rel => exact ⟨k + 1, n + nq, by omega, by go_num, by first | rfl | rw [World.drewN_drewN], fun i hi hi' hik => by
              by_cases e : i = k
              · subst e; exact HE.out
              · exact HN.out i hi hi' (by omega)⟩
            case measure => simp [intOf]; omega
          · have e2' : (x[k].2.toList == y[k].2.toList) = false := by
              rw [beq_eq_false_iff_ne]; exact fun e => e2 (bytes_eq e)
            have HE : Hid (x[k] ≠ y[k]) := fun e => e2 (by rw [e])
            clear e1 e2
            go_wp2
            go_quiet (fail)
            go_wp2
            go_ret
            exact ⟨ret_bool (by rw [← HR.out, eq_comm, decide_eq_false_iff_not]; exact fun e => HE.out (by subst e; rfl)), n + nq, by first | rfl | rw [World.drewN_drewN]⟩
        · have e1' : (x[k].1.toList == y[k].1.toList) = false := by
            rw [beq_eq_false_iff_ne]; exact fun e => e1 (bytes_eq e)
          have HE : Hid (x[k] ≠ y[k]) := fun e => e1 (by rw [e])
          clear e1
          go_wp2
          go_quiet (fail)
          go_wp2
          go_ret
          exact ⟨ret_bool (by rw [← HR.out, eq_comm, decide_eq_false_iff_not]; exact fun e => HE.out (by subst e; rfl)), n + nq, by first | rfl | rw [World.drewN_drewN]⟩
      · go_wp2
        go_ret
        exact ⟨ret_bool (by rw [← HR.out, eq_comm, decide_eq_true_iff]; exact List.ext_getElem HL.out fun i h1 h2 => HN.out i h1 h2 (by omega)), n, rfl⟩
  · have hl' : ((x.length : Int) != (y.length : Int)) = true := by simp; omega
    go_enter Tryd.func47, Tryd.ntmps47
    go_wp2
    go_ret
    exact ⟨ret_bool (by rw [← HR.out, eq_comm, decide_eq_false_iff_not]; exact fun e => hl (by rw [e])), 0, rfl⟩

/-- A message as data. -/
structure Ms where
  st : Int
  path : ByteArray
  heads : List Hd
  body : ByteArray

/-- A message's value, as it lies in a world. -/
structure MsAt (w : World) (v : Value) (m : Ms) : Prop where
  lies : ∃ ao c bo d, v = .agg #[.int .i64 m.st, .string m.path, .slice ao m.heads.length c, .slice bo m.body.size d] ∧ HeadsAt w ao m.heads ∧ BytesAt w bo m.body ∧ (ao = none → c = 0) ∧ (bo = none → d = 0) ∧ m.heads.length ≤ c ∧ c ≤ maxLen
  size : m.path.size ≤ maxLen
  room : m.heads.length * 32 ≤ 140737488351232 ∧ m.body.size ≤ 140737488351232

theorem MsAt.below {w w' : World} {B : Nat} {v : Value} {m : Ms} (h : MsAt w v m) (hB : w.heap.size ≤ B) (hb : Below B w w') : MsAt w' v m := by
  obtain ⟨⟨ao, c, bo, d, e, h1, h2, h5⟩, h3, h4⟩ := h
  exact ⟨⟨ao, c, bo, d, e, h1.below hB hb, h2.below hB hb, h5⟩, h3, h4⟩

def sameB (a b : Ms) : Bool := (a.st == b.st) && ((a.path.toList == b.path.toList) && (decide (a.heads = b.heads) && (a.body.toList == b.body.toList)))

theorem belDrewN {B : Nat} {a w : World} (h : Below B a w) (n : Nat) : Below B a (w.drewN n) := ⟨h.os, h.tape, h.output, h.size, h.block⟩

set_option maxHeartbeats 1000000 in
theorem same_any (a b : Ms) (va vb : Value) (w : World) (ha : MsAt w va a) (hb : MsAt w vb b) :
    Calls Tryd.prog 18 #[va, vb] w fun e w' => e = .returned (.bool (sameB a b)) ∧ Below w.heap.size w w' := by
  obtain ⟨⟨ao, c, bo, d, rfl, a1, a2, _⟩, _, _⟩ := ha
  obtain ⟨⟨ao', c', bo', d', rfl, b1, b2, _⟩, _, _⟩ := hb
  generalize hr : sameB a b = r
  have HR : Hid (sameB a b = r) := hr
  clear hr
  have hbw : ∀ o o' : Obj, Below w.heap.size w ((w.alloc o).alloc o') := fun o o' => ((Below.refl _ _).alloc (Nat.le_refl _) _).alloc (by simp) _
  have a1' := fun o o' => a1.below (Nat.le_refl _) (hbw o o')
  have a2' := fun o o' n => a2.below (Nat.le_refl _) (belDrewN (hbw o o') n)
  have b1' := fun o o' => b1.below (Nat.le_refl _) (hbw o o')
  have b2' := fun o o' n => b2.below (Nat.le_refl _) (belDrewN (hbw o o') n)
  by_cases h1 : a.st = b.st
  · have q1 : (a.st == b.st) = true := by simp [h1]
    have H1 : Hid (a.st = b.st) := h1
    clear h1
    by_cases h2 : (a.path.toList == b.path.toList) = true
    · by_cases h3 : a.heads = b.heads
      · have q3 : decide (a.heads = b.heads) = true := by simp [h3]
        have H3 : Hid (a.heads = b.heads) := h3
        clear h3
        go_enter Tryd.func18, Tryd.ntmps18
        go_wp2_with (first | (go_at_call 47; refine (headsEqual_any _ _ _ _ _ _ _ (a1' _ _) (b1' _ _)).mono ?_; rintro e w1 ⟨rfl, n, rfl⟩) | (go_at_call 48; refine (bytesEqual_any _ _ _ _ _ _ _ (a2' _ _ _) (b2' _ _ _)).mono ?_; rintro e w2 ⟨rfl, rfl⟩))
        go_ret
        refine ⟨ret_bool ?_, belDrewN (hbw _ _) _⟩
        rw [← HR.out, sameB, q1, h2, q3]; rfl
      · have q3 : decide (a.heads = b.heads) = false := by simp [h3]
        have H3 : Hid (¬ a.heads = b.heads) := h3
        clear h3
        go_enter Tryd.func18, Tryd.ntmps18
        go_wp2_with (first | (go_at_call 47; refine (headsEqual_any _ _ _ _ _ _ _ (a1' _ _) (b1' _ _)).mono ?_; rintro e w1 ⟨rfl, n, rfl⟩) | (go_at_call 48; refine (bytesEqual_any _ _ _ _ _ _ _ (a2' _ _ _) (b2' _ _ _)).mono ?_; rintro e w2 ⟨rfl, rfl⟩))
        go_ret
        refine ⟨ret_bool ?_, belDrewN (hbw _ _) _⟩
        rw [← HR.out, sameB, q1, h2, q3]; rfl
    · have q2 : (a.path.toList == b.path.toList) = false := by simpa using h2
      clear h2
      go_enter Tryd.func18, Tryd.ntmps18
      go_wp2
      go_ret
      refine ⟨ret_bool ?_, hbw _ _⟩
      rw [← HR.out, sameB, q1, q2]; rfl
  · have q1 : (a.st == b.st) = false := by simp [h1]
    go_enter Tryd.func18, Tryd.ntmps18
    go_wp2
    go_ret
    refine ⟨ret_bool ?_, hbw _ _⟩
    rw [← HR.out, sameB, q1]; rfl
end Go.Proofs.YtlkfkhpokkjkpaaDoor
