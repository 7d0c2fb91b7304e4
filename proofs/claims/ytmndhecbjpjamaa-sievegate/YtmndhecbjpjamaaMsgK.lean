/- Walks of Answer; messages in boxes of a call's own. -/
import Derived.Test.YtmndhecbjpjamaaMsgF
import Derived.Lib.ConvBytes
namespace Go.Proofs.Ytmndhecbjpjamaa
open Go.RowKit

/-- Bytes as a string. -/
def B (l : List UInt8) : ByteArray := ⟨l.toArray⟩
theorem B_data (l : List UInt8) : (B l).data.toList = l := by simp [B]
theorem B_size (l : List UInt8) : (B l).size = l.length := by simp [B, ByteArray.size]
theorem B_of (s : ByteArray) : B s.data.toList = s := by apply WideShapes.bytes_inj; rw [B_data]
theorem below_bytes (w : World) (t : ByteArray) : Below w.heap.size w (Lib.bytesWorld w 5 t) :=
  ⟨rfl, rfl, rfl, by rw [Lib.bytesWorld_size]; omega, fun k hk => Lib.bytesWorld_at_old w 5 t k hk⟩

theorem BytesAt.set {w : World} {ao : Option Addr} {bs : ByteArray} (h : BytesAt w ao bs) (a : Addr) (u : Value) (ha : ∀ b off, ao = some ⟨b, off, none⟩ → b ≠ a.block) : BytesAt (w.setCell a u) ao bs where
  lies i hi := by
    obtain ⟨b, off, h1, h2, h3⟩ := h.lies i hi
    refine ⟨b, off, h1, by simpa using h2, ?_⟩
    rw [World.cell?_of_block (w := w) (a := ⟨b, off + i, none⟩) (Below.heap_setCell w a u b (ha b off h1))]; exact h3
  plain := h.plain
  small := h.small
theorem bytesAt_new (w : World) (s : ByteArray) (hs : s.size ≤ maxLen) : BytesAt (Lib.bytesWorld w 5 s) (some ⟨w.heap.size, 0, none⟩) s where
  lies i hi := by
    refine ⟨w.heap.size, 0, rfl, by rw [Lib.bytesWorld_size]; omega, ?_⟩
    rw [Nat.zero_add, Lib.bytesWorld_cell w 5 s i hi]
    have h' : i < s.data.toList.length := by simpa using hi
    simp [List.getD, hi]
    rfl
  plain := .inr (.inl ⟨_, _, rfl⟩)
  small := hs

theorem HeadsAt.set {w : World} {ao : Option Addr} {hs : List Hd} (h : HeadsAt w ao hs) (a : Addr) (u : Value) (ha : ∀ x, ao = some x → x.block ≠ a.block) : HeadsAt (w.setCell a u) ao hs where
  lies i hi := by
    obtain ⟨b, off, h1, h2, h3, h4⟩ := h.lies i hi
    have hb := ha _ h1
    refine ⟨b, off, h1, by simpa using h2, ?_, ?_⟩
    · rw [World.cell?_of_block (w := w) (a := ⟨b, off + i * 2, none⟩) (Below.heap_setCell w a u b hb)]; exact h3
    · rw [World.cell?_of_block (w := w) (a := ⟨b, off + i * 2 + 1, none⟩) (Below.heap_setCell w a u b hb)]; exact h4
  small := h.small
  size := h.size
theorem MsAt.low {w : World} {v : Value} {m : Ms} {base : Nat} (h : MsAt w v m) (hf : From base v) {a : Addr} (ha : a.block < base) (u : Value) : MsAt (w.setCell a u) v m := by
  obtain ⟨⟨ao, c, bo, d, rfl, h1, h2, h3⟩, h4, h5⟩ := h
  obtain ⟨x, y, ao', n, c', bo', k, d', e, f1, f2⟩ := hf
  simp only [Value.agg.injEq, Array.mk.injEq, List.cons.injEq, Value.slice.injEq, and_true] at e
  obtain ⟨_, _, ⟨rfl, _⟩, ⟨rfl, _⟩⟩ := e
  refine ⟨⟨ao, c, bo, d, rfl, h1.set a u fun x hx => ?_, h2.set a u fun b off hx => ?_, h3⟩, h4, h5⟩
  · have := f1 x hx; omega
  · have := f2 _ hx; simp at this; omega

set_option maxHeartbeats 1000000 in
theorem answer_any (st : Int) (s : ByteArray) (w : World) (hs : s.size ≤ 140737488351232) :
    Calls Try.prog 58 #[.int .i64 st, .string s] w fun e w' => ∃ bo d, e = .returned (.agg #[.int .i64 st, .string ⟨#[]⟩, .slice none 0 0, .slice bo s.size d]) ∧ MsAt w' (.agg #[.int .i64 st, .string ⟨#[]⟩, .slice none 0 0, .slice bo s.size d]) ⟨st, B [], [], s⟩ ∧ From w.heap.size (.agg #[.int .i64 st, .string ⟨#[]⟩, .slice none 0 0, .slice bo s.size d]) ∧ Below w.heap.size w w' := by
  have HS : Hid (s.size ≤ 140737488351232) := hs
  clear hs
  have hcv := Lib.run_convert_string_bytes (P := Try.prog) (w.alloc (.cells #[.int .i64 0, .string ⟨#[]⟩, .slice none 0 0, .slice none 0 0] 27)) 9 25 5 s Try.underlying9 Try.underlying25 Try.underlying5
  obtain ⟨w1, hw1⟩ : ∃ w1, Lib.bytesWorld (w.alloc (.cells #[.int .i64 0, .string ⟨#[]⟩, .slice none 0 0, .slice none 0 0] 27)) 5 s = w1 := ⟨_, rfl⟩
  obtain ⟨cap, hcap⟩ : ∃ cap, grownCap (w.alloc (.cells #[.int .i64 0, .string ⟨#[]⟩, .slice none 0 0, .slice none 0 0] 27)) s.size 0 5 = cap := ⟨_, rfl⟩
  rw [hw1, hcap] at hcv
  have b1 : Below (w.alloc (.cells #[.int .i64 0, .string ⟨#[]⟩, .slice none 0 0, .slice none 0 0] 27)).heap.size (w.alloc (.cells #[.int .i64 0, .string ⟨#[]⟩, .slice none 0 0, .slice none 0 0] 27)) w1 := by rw [← hw1]; exact below_bytes _ _
  have BY : Hid (BytesAt w1 (some ⟨w.heap.size + 1, 0, none⟩) s) := by
    have := bytesAt_new (w.alloc (.cells #[.int .i64 0, .string ⟨#[]⟩, .slice none 0 0, .slice none 0 0] 27)) s (by unfold maxLen; have := HS.out; omega)
    rw [hw1] at this
    show BytesAt _ _ _
    simpa using this
  have hbx := fun j => b1.cell (p := ⟨w.heap.size, j, none⟩) (by simp)
  have hfx := fun j => b1.frozen (p := ⟨w.heap.size, j, none⟩) (by simp)
  simp only [World.size_alloc] at hcv
  have BL : Hid (Below w.heap.size w w1) := ((Below.refl _ _).alloc (Nat.le_refl _) _).trans (b1.mono (by simp))
  clear hw1 hcap b1
  go_enter Try.func58, Try.ntmps58
  go_wp2
  refine bodyPost_ret (v := .agg #[.int .i64 st, .string ⟨#[]⟩, .slice none 0 0, .slice (some ⟨w.heap.size + 1, 0, none⟩) s.size cap]) (by simp [results, Try.results58, go_sem, hbx]) rfl ⟨_, _, rfl, ?_, ⟨_, _, _, _, _, _, _, _, rfl, (fun a e => by cases e), fun a e => ?_⟩, ?_⟩
  · refine ⟨⟨none, 0, some ⟨w.heap.size + 1, 0, none⟩, cap, rfl, ⟨fun i h => absurd h (by simp), by simp, fun h hh => absurd hh (by simp)⟩, ?_, fun _ => rfl, (fun e => by cases e), by simp, by simp⟩, by simp [B_size], by simp, HS.out⟩
    iterate 4 (refine BytesAt.set ?_ _ _ (by intro b off e; simp at e; simp; omega))
    exact BY.out
  · obtain rfl : ⟨w.heap.size + 1, 0, none⟩ = a := Option.some.inj e
    exact Nat.le_succ _
  · iterate 4 (refine Below.setCell ?_ (by simp) _)
    exact BL.out

theorem field0 (x : Int) (y : ByteArray) (a b : Option Addr) (n c k d : Nat) (w : World) : (Instr.field 27 (.agg #[.int .i64 x, .string y, .slice a n c, .slice b k d]) 0).run Try.prog w = .ok (.int .i64 x) w := by kernel_rfl
theorem field2 (x : Int) (y : ByteArray) (a b : Option Addr) (n c k d : Nat) (w : World) : (Instr.field 27 (.agg #[.int .i64 x, .string y, .slice a n c, .slice b k d]) 2).run Try.prog w = .ok (.slice a n c) w := by kernel_rfl

theorem same_refl (m : Ms) : sameB m m = true := by simp [sameB]

/-- A struct of four cells in a block of its own. -/
structure BoxAt (w : World) (b : Nat) (x0 x1 x2 x3 : Value) : Prop where
  c0 : w.cell? ⟨b, 0, none⟩ = some x0
  c1 : w.cell? ⟨b, 1, none⟩ = some x1
  c2 : w.cell? ⟨b, 2, none⟩ = some x2
  c3 : w.cell? ⟨b, 3, none⟩ = some x3
  lt : b < w.heap.size
theorem BoxAt.keep {w w' : World} {b : Nat} {x0 x1 x2 x3 : Value} (h : BoxAt w b x0 x1 x2 x3) (bl : Below w.heap.size w w') : BoxAt w' b x0 x1 x2 x3 := by
  have cc := fun j => bl.cell (p := ⟨b, j, none⟩) h.lt
  exact ⟨by rw [cc]; exact h.c0, by rw [cc]; exact h.c1, by rw [cc]; exact h.c2, by rw [cc]; exact h.c3, Nat.lt_of_lt_of_le h.lt bl.size⟩
theorem boxAt_new (w : World) (x0 x1 x2 x3 : Value) (t : TypeId) : BoxAt (w.alloc (.cells #[x0, x1, x2, x3] t)) w.heap.size x0 x1 x2 x3 :=
  ⟨by simp, by simp, by simp, by simp, by simp⟩

theorem MsAt.parts {w : World} {x : Int} {p : ByteArray} {ao bo : Option Addr} {n c k d : Nat} {m : Ms} (h : MsAt w (.agg #[.int .i64 x, .string p, .slice ao n c, .slice bo k d]) m) : HeadsAt w ao m.heads ∧ BytesAt w bo m.body := by
  obtain ⟨⟨ao', c', bo', d', e, h1, h2, _⟩, _, _⟩ := h
  simp only [Value.agg.injEq, Array.mk.injEq, List.cons.injEq, Value.slice.injEq, and_true] at e
  obtain ⟨_, _, ⟨rfl, _, _⟩, ⟨rfl, _, _⟩⟩ := e
  exact ⟨h1, h2⟩

end Go.Proofs.Ytmndhecbjpjamaa
