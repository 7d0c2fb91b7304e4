/- Walks of Same: two messages in memory, compared. -/
import Derived.Test.YtmndhecbjpjamaaMsgB
import Derived.Laws.BytesArg
import Derived.Laws.StructEq
import Derived.Deep.QuietTactic
import Derived.BigQuiet
namespace Go.Proofs.Ytmndhecbjpjamaa
open Go.RowKit

/-- A slice of bytes, as it lies in a world. -/
structure BytesAt (w : World) (ao : Option Addr) (bs : ByteArray) : Prop where
  lies : ∀ i (h : i < bs.size), ∃ b off, ao = some ⟨b, off, none⟩ ∧ b < w.heap.size ∧ w.cell? ⟨b, off + i, none⟩ = some (.int .u8 bs[i].toNat)
  plain : ao = none ∨ (∃ b off, ao = some ⟨b, off, none⟩) ∨ bs.size = 0
  small : bs.size ≤ maxLen

theorem BytesAt.below {w w' : World} {B : Nat} {ao : Option Addr} {bs : ByteArray} (h : BytesAt w ao bs) (hB : w.heap.size ≤ B) (hb : Below B w w') : BytesAt w' ao bs where
  lies i hi := by
    obtain ⟨b, off, h1, h2, h3⟩ := h.lies i hi
    have hsz := hb.size
    exact ⟨b, off, h1, by omega, by rw [hb.cell (p := ⟨b, off + i, none⟩) (by simp; omega)]; exact h3⟩
  plain := h.plain
  small := h.small

def numsOf (bs : ByteArray) : List Int := bs.data.toList.map fun b => (b.toNat : Int)
theorem numsOf_length (bs : ByteArray) : (numsOf bs).length = bs.size := by simp [numsOf]
theorem numsOf_getD (bs : ByteArray) (i : Nat) (h : i < bs.size) : (numsOf bs).getD i 0 = (bs[i].toNat : Int) := by
  have h' : i < bs.data.toList.length := by simpa using h
  simp [numsOf, List.getD, h]
  rfl
theorem str_numsOf (bs : ByteArray) : strOfNums (numsOf bs) = bs := by
  apply WideShapes.bytes_inj
  rw [strOfNums_data, numsOf, List.map_map]
  conv => rhs; rw [← List.map_id bs.data.toList]
  apply List.map_congr_left
  intro b _
  simp

theorem conv_body {w : World} {ao : Option Addr} {bs : ByteArray} (h : BytesAt w ao bs) (cap : Nat) :
    (convert 25 9 (.slice ao bs.size cap)).run Try.prog w = .ok (.string bs) w := by
  rcases h.plain with rfl | ⟨b, off, rfl⟩ | h0
  · have h0 : bs.size = 0 := by
      rcases Nat.eq_zero_or_pos bs.size with h0 | h0
      · exact h0
      · obtain ⟨_, _, e, _⟩ := h.lies 0 h0; cases e
    have hb : bs = ByteArray.empty := by
      apply WideShapes.bytes_inj; exact List.eq_nil_of_length_eq_zero (by simpa using h0)
    rw [hb]
    exact run_convert_bytes_nil w 25 5 Try.underlying25 Try.underlying5 _ _ 9 Try.underlying9
  · have := run_convert_bytes_arg (P := Try.prog) w 25 5 Try.underlying25 Try.underlying5 b off bs.size cap (numsOf bs) (numsOf_length bs) (fun i hi => by
      obtain ⟨b', off', e, _, hc⟩ := h.lies i hi
      simp only [Option.some.injEq, Addr.mk.injEq, and_true] at e
      obtain ⟨rfl, rfl⟩ := e
      rw [hc, numsOf_getD bs i hi]) 9 Try.underlying9
    rw [this, str_numsOf]
  · have hb : bs = ByteArray.empty := by
      apply WideShapes.bytes_inj; exact List.eq_nil_of_length_eq_zero (by simpa using h0)
    subst hb
    cases ao with
    | none => exact run_convert_bytes_nil w 25 5 Try.underlying25 Try.underlying5 _ _ 9 Try.underlying9
    | some a =>
      have hl : (loadCells a 0).run Try.prog w = .ok (([] : List Int).map (Value.int .u8)).toArray w := by
        have := run_loadCells_list (P := Try.prog) w a [] (fun j v hj => by simp at hj)
        simpa using this
      have h1 := run_bytesToString w a 0 cap [] hl
      rw [run_convert_bytes_string w 25 9 5 _ _ cap Try.underlying25 Try.underlying5 Try.underlying9]
      exact h1

theorem Try.held45 : Try.prog.stoodInHeld 53 = false := by kernel_rfl
theorem Try.guard45 : Try.prog.eqGuardType Try.prog.depth 53 = false := by kernel_rfl

/-- A message as data. -/
structure Ms where
  st : Int
  path : ByteArray
  heads : List Hd
  body : ByteArray

/-- A message's value, as it lies in a world. -/
structure MsAt (w : World) (v : Value) (m : Ms) : Prop where
  lies : ∃ ao c bo d, v = .agg #[.int .i64 m.st, .string m.path, .slice ao m.heads.length c, .slice bo m.body.size d] ∧ HeadsAt w ao m.heads ∧ BytesAt w bo m.body ∧ (ao = none → c = 0) ∧ (bo = none → d = 0) ∧ m.heads.length ≤ c ∧ c ≤ maxLen
  size : m.path.size ≤ maxLen
  room : m.heads.length * 32 ≤ 140737488351232 ∧ m.body.size ≤ 140737488351232

theorem MsAt.below {w w' : World} {B : Nat} {v : Value} {m : Ms} (h : MsAt w v m) (hB : w.heap.size ≤ B) (hb : Below B w w') : MsAt w' v m := by
  obtain ⟨⟨ao, c, bo, d, e, h1, h2, h5⟩, h3, h4⟩ := h
  exact ⟨⟨ao, c, bo, d, e, h1.below hB hb, h2.below hB hb, h5⟩, h3, h4⟩

def sameB (a b : Ms) : Bool := (a.st == b.st) && ((a.path.toList == b.path.toList) && (decide (a.heads = b.heads) && (a.body.toList == b.body.toList)))

theorem belDrewN {B : Nat} {a w : World} (h : Below B a w) (n : Nat) : Below B a (w.drewN n) := ⟨h.os, h.tape, h.output, h.size, h.block⟩

end Go.Proofs.Ytmndhecbjpjamaa
