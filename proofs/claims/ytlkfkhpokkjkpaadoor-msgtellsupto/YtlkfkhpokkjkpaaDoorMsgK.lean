/- Walks of Answer and of the closed fact that the laws ask first. -/
import Derived.Test.YtlkfkhpokkjkpaaDoorMsgJ
import Derived.Lib.SlBytesConst
namespace Go.Proofs.YtlkfkhpokkjkpaaDoor
open Go.RowKit

set_option maxHeartbeats 1000000 in
theorem answer_any (st : Int) (s : ByteArray) (w : World) (hs : s.size ≤ 140737488351232) :
    Calls Tryd.prog 21 #[.int .i64 st, .string s] w fun e w' => ∃ bo d, e = .returned (.agg #[.int .i64 st, .string ⟨#[]⟩, .slice none 0 0, .slice bo s.size d]) ∧ MsAt w' (.agg #[.int .i64 st, .string ⟨#[]⟩, .slice none 0 0, .slice bo s.size d]) ⟨st, B [], [], s⟩ ∧ Below w.heap.size w w' := by
  have HS : Hid (s.size ≤ 140737488351232) := hs
  clear hs
  have hcv := Lib.run_convert_string_bytes (P := Tryd.prog) (w.alloc (.cells #[.int .i64 0, .string ⟨#[]⟩, .slice none 0 0, .slice none 0 0] 25)) 9 23 5 s Tryd.underlying9 Tryd.underlying23 Tryd.underlying5
  obtain ⟨w1, hw1⟩ : ∃ w1, Lib.bytesWorld (w.alloc (.cells #[.int .i64 0, .string ⟨#[]⟩, .slice none 0 0, .slice none 0 0] 25)) 5 s = w1 := ⟨_, rfl⟩
  obtain ⟨cap, hcap⟩ : ∃ cap, grownCap (w.alloc (.cells #[.int .i64 0, .string ⟨#[]⟩, .slice none 0 0, .slice none 0 0] 25)) s.size 0 5 = cap := ⟨_, rfl⟩
  rw [hw1, hcap] at hcv
  have b1 : Below (w.alloc (.cells #[.int .i64 0, .string ⟨#[]⟩, .slice none 0 0, .slice none 0 0] 25)).heap.size (w.alloc (.cells #[.int .i64 0, .string ⟨#[]⟩, .slice none 0 0, .slice none 0 0] 25)) w1 := by rw [← hw1]; exact below_bytes _ _
  have BY : Hid (BytesAt w1 (some ⟨w.heap.size + 1, 0, none⟩) s) := by
    have := bytesAt_new (w.alloc (.cells #[.int .i64 0, .string ⟨#[]⟩, .slice none 0 0, .slice none 0 0] 25)) s (by unfold maxLen; have := HS.out; omega)
    rw [hw1] at this
    show BytesAt _ _ _
    simpa using this
  have hbx := fun j => b1.cell (p := ⟨w.heap.size, j, none⟩) (by simp)
  have hfx := fun j => b1.frozen (p := ⟨w.heap.size, j, none⟩) (by simp)
  simp only [World.size_alloc] at hcv
  have BL : Hid (Below w.heap.size w w1) := ((Below.refl _ _).alloc (Nat.le_refl _) _).trans (b1.mono (by simp))
  clear hw1 hcap b1
  go_enter Tryd.func21, Tryd.ntmps21
  go_wp2
  refine bodyPost_ret (v := .agg #[.int .i64 st, .string ⟨#[]⟩, .slice none 0 0, .slice (some ⟨w.heap.size + 1, 0, none⟩) s.size cap]) (by simp [results, Tryd.results21, go_sem, hbx]) rfl ⟨_, _, rfl, ?_, ?_⟩
  · refine ⟨⟨none, 0, some ⟨w.heap.size + 1, 0, none⟩, cap, rfl, ⟨fun i h => absurd h (by simp), by simp, fun h hh => absurd hh (by simp)⟩, ?_, fun _ => rfl, (fun e => by cases e), by simp, by simp⟩, by simp [B_size], by simp, HS.out⟩
    iterate 4 (refine BytesAt.set ?_ _ _ (by intro b off e; simp at e; simp; omega))
    exact BY.out
  · iterate 4 (refine Below.setCell ?_ (by simp) _)
    exact BL.out

def aliveM : Ms := ⟨0, ⟨#[47, 97]⟩, [(⟨#[107]⟩, ⟨#[118, 32, 119]⟩)], ⟨#[98, 10, 99]⟩⟩

def aliveV (H : Nat) : Value := .agg #[.int .i64 0, .string ⟨#[47, 97]⟩, .slice (some ⟨H, 0, none⟩) 1 1, .slice (some ⟨H + 1, 0, none⟩) 3 3]
def aliveS : ByteArray := ⟨#[97, 115, 107, 32, 47, 97, 10, 107, 61, 118, 32, 119, 10, 10, 98, 10, 99]⟩
theorem alive_text : B (textL aliveM) = aliveS := by rfl
theorem alive_read : readL aliveS.data.toList = some aliveM := by kernel_rfl
theorem alive_wrong : wrongE aliveM = 0 := by kernel_rfl
theorem alive_parseE : parseE aliveS.data.toList = 0 := by rw [parseE, alive_read]; exact alive_wrong
theorem alive_parseM : parseM aliveS.data.toList = aliveM := by rw [parseM, alive_read]; simp [alive_wrong]
theorem alive_getS : getS ⟨#[113]⟩ (setM aliveM ⟨#[113]⟩ ⟨#[122]⟩).heads = ⟨#[122]⟩ := by kernel_rfl
theorem alive_getB : getB ⟨#[113]⟩ (setM aliveM ⟨#[113]⟩ ⟨#[122]⟩).heads = true := by kernel_rfl
theorem alive_same : sameB aliveM aliveM = true := by kernel_rfl
theorem alive_key : keyB ⟨#[97, 98]⟩ = true := by kernel_rfl
theorem alive_path : pthB ⟨#[47]⟩ = true := by kernel_rfl

/-- The closed fact's message, as it lies. -/
structure AliveAt (w wi : World) : Prop where
  bl : Below w.heap.size w wi
  gl : Glob wi
  ms : MsAt wi (aliveV w.heap.size) aliveM
  c0 : wi.cell? ⟨w.heap.size + 1 + 1, 0, none⟩ = some (.int .i64 0)
  c1 : wi.cell? ⟨w.heap.size + 1 + 1, 1, none⟩ = some (.string ⟨#[47, 97]⟩)
  c2 : wi.cell? ⟨w.heap.size + 1 + 1, 2, none⟩ = some (.slice (some ⟨w.heap.size, 0, none⟩) 1 1)
  c3 : wi.cell? ⟨w.heap.size + 1 + 1, 3, none⟩ = some (.slice (some ⟨w.heap.size + 1, 0, none⟩) 3 3)
  sz : w.heap.size + 3 ≤ wi.heap.size
theorem AliveAt.keep {w wi wj : World} (h : AliveAt w wi) (b : Below wi.heap.size wi wj) : AliveAt w wj := by
  have hz := h.sz
  have cc := fun j => b.cell (p := ⟨w.heap.size + 1 + 1, j, none⟩) (by show w.heap.size + 1 + 1 < _; omega)
  have := b.size
  exact ⟨h.bl.trans (b.mono (by omega)), h.gl.below b, h.ms.below (Nat.le_refl _) b, by rw [cc]; exact h.c0, by rw [cc]; exact h.c1, by rw [cc]; exact h.c2, by rw [cc]; exact h.c3, by omega⟩

def aliveW (w : World) : World := (((w.alloc (.cells #[.string ⟨#[107]⟩, .string ⟨#[118, 32, 119]⟩] 52)).alloc (.cells #[.int .u8 98, .int .u8 10, .int .u8 99] 5 (3, 4))).alloc (.cells #[.int .i64 0, .string ⟨#[47, 97]⟩, .slice (some ⟨w.heap.size, 0, none⟩) 1 1, .slice (some ⟨w.heap.size + 1, 0, none⟩) 3 3] 25))
theorem alive_start (w : World) (hg : Glob w) : AliveAt w (aliveW w) := by
  have bl : Below w.heap.size w (aliveW w) := Joins.below_alloc3 w _ _ _
  have e0 : (aliveW w).heap[w.heap.size]? = some (.cells #[.string ⟨#[107]⟩, .string ⟨#[118, 32, 119]⟩] 52) := by
    show (((w.heap.push _).push _).push _)[w.heap.size]? = _
    simp [Array.getElem?_push]
    omega
  have e1 : (aliveW w).heap[w.heap.size + 1]? = some (.cells #[.int .u8 98, .int .u8 10, .int .u8 99] 5 (3, 4)) := by
    show (((w.heap.push _).push _).push _)[w.heap.size + 1]? = _
    rw [Array.getElem?_push, if_neg (by simp), Array.getElem?_push, if_pos (by simp)]
  have e2 : (aliveW w).heap[w.heap.size + 1 + 1]? = some (.cells #[.int .i64 0, .string ⟨#[47, 97]⟩, .slice (some ⟨w.heap.size, 0, none⟩) 1 1, .slice (some ⟨w.heap.size + 1, 0, none⟩) 3 3] 25) := by
    show (((w.heap.push _).push _).push _)[w.heap.size + 1 + 1]? = _
    rw [Array.getElem?_push, if_pos (by simp)]
  have sz : (aliveW w).heap.size = w.heap.size + 3 := by simp [aliveW]
  refine ⟨bl, hg.below bl, ?_, ?_, ?_, ?_, ?_, by omega⟩
  · refine ⟨⟨some ⟨w.heap.size, 0, none⟩, 1, some ⟨w.heap.size + 1, 0, none⟩, 3, rfl, ⟨?_, by decide, ?_⟩, ⟨?_, .inr (.inl ⟨_, _, rfl⟩), by decide⟩, (fun e => by cases e), (fun e => by cases e), by decide, by decide⟩, by decide, by decide⟩
    · intro i hi
      have h0 : i = 0 := by simp [aliveM] at hi; exact hi
      subst h0
      exact ⟨w.heap.size, 0, rfl, by omega, by rw [Joins.cell_of_block e0]; rfl, by rw [Joins.cell_of_block e0]; rfl⟩
    · intro h hh
      obtain rfl : h = (⟨#[107]⟩, ⟨#[118, 32, 119]⟩) := by simpa [aliveM] using hh
      decide
    · intro i hi
      have h3 : i < 3 := hi
      refine ⟨w.heap.size + 1, 0, rfl, by omega, ?_⟩
      rw [Joins.cell_of_block e1]
      match i, h3 with
      | 0, _ => rfl
      | 1, _ => rfl
      | 2, _ => rfl
  · rw [Joins.cell_of_block e2]; rfl
  · rw [Joins.cell_of_block e2]; rfl
  · rw [Joins.cell_of_block e2]; rfl
  · rw [Joins.cell_of_block e2]; rfl

theorem field0 (x : Int) (y : ByteArray) (a b : Option Addr) (n c k d : Nat) (w : World) : (Instr.field 25 (.agg #[.int .i64 x, .string y, .slice a n c, .slice b k d]) 0).run Tryd.prog w = .ok (.int .i64 x) w := by kernel_rfl
theorem field2 (x : Int) (y : ByteArray) (a b : Option Addr) (n c k d : Nat) (w : World) : (Instr.field 25 (.agg #[.int .i64 x, .string y, .slice a n c, .slice b k d]) 2).run Tryd.prog w = .ok (.slice a n c) w := by kernel_rfl

set_option maxRecDepth 100000 in
set_option maxHeartbeats 1000000 in
theorem alive_any (w : World) (hg : Glob w) :
    Calls Tryd.prog 27 #[] w fun e w' => e = .returned (.bool true) ∧ Below w.heap.size w w' := by
  have kc := Joins.run_convert_bytes_const_at (P := Tryd.prog) (w.alloc (.cells #[.string ⟨#[107]⟩, .string ⟨#[118, 32, 119]⟩] 52)) 23 5 #[.int .u8 98, .int .u8 10, .int .u8 99] 3 3 (w.heap.size + 1) (by simp) Tryd.underlying23 Tryd.underlying5
  go_enter Tryd.func27, Tryd.ntmps27
  go_wp2_with fail
  obtain ⟨W, hW⟩ : ∃ W, aliveW w = W := ⟨_, rfl⟩
  have A0 : AliveAt w W := by rw [← hW]; exact alive_start w hg
  have hW' := hW
  unfold aliveW at hW'
  rw [hW']
  clear hW hW' kc
  refine (text_right aliveM _ _ A0.ms alive_wrong A0.gl.tab).mono ?_
  rintro e w1 ⟨rfl, b1⟩
  rw [alive_text]
  have A1 := A0.keep b1
  clear A0 b1
  go_wp2_with fail
  refine (parse_any aliveS _ (by decide) A1.gl).mono ?_
  rintro e w2 ⟨v2, rfl, m2, b2⟩
  rw [alive_parseE]
  rw [alive_parseM] at m2
  have A2 := A1.keep b2
  clear A1 b2
  have X2 : Hid (MsAt w2 v2 aliveM) := m2
  obtain ⟨⟨ao, c, bo, d, hv2, hrest⟩, _, _⟩ := m2
  clear hrest
  subst hv2
  obtain ⟨xv, hxv⟩ : ∃ xv, Value.agg #[.int .i64 aliveM.st, .string aliveM.path, .slice ao aliveM.heads.length c, .slice bo aliveM.body.size d] = xv := ⟨_, rfl⟩
  have HX : Hid (MsAt w2 xv aliveM ∧ xv = .agg #[.int .i64 aliveM.st, .string aliveM.path, .slice ao aliveM.heads.length c, .slice bo aliveM.body.size d]) := ⟨by rw [← hxv]; exact X2.out, hxv.symm⟩
  clear X2 hxv
  have HA : Hid (AliveAt w w2) := A2
  have c0 := A2.c0
  have c1 := A2.c1
  have c2 := A2.c2
  have c3 := A2.c3
  have hlt : w.heap.size + 1 + 1 < w2.heap.size := by have := A2.sz; omega
  clear A2
  go_wp2_with fail
  have b3 : ∀ o, Below w2.heap.size w2 (w2.alloc o) := fun o => (Below.refl _ _).alloc (Nat.le_refl _) o
  refine (set_any aliveM ⟨#[113]⟩ ⟨#[122]⟩ _ _ (HA.out.keep (b3 _)).ms (by decide) (by decide)).mono ?_
  rintro e w3 ⟨v3, rfl, m3, bl3⟩
  obtain ⟨⟨ao3, cc3, bo3, d3, hv3, h3, _⟩, _, _⟩ := m3
  subst hv3
  have H3 : Hid (HeadsAt w3 ao3 (setM aliveM ⟨#[113]⟩ ⟨#[122]⟩).heads) := h3
  clear h3
  go_wp2_with fail
  refine (get_any _ ⟨#[113]⟩ _ _ _ _ _ _ H3.out).mono ?_
  rintro e w4 ⟨rfl, bl4⟩
  rw [alive_getS, alive_getB]
  have bl5 : Below (w2.heap.size + 1) (w2.alloc (.cells #[.int .i64 aliveM.st, .string aliveM.path, .slice ao aliveM.heads.length c, .slice bo aliveM.body.size d] 25)) w4 := (bl3.mono (by simp)).trans (bl4.mono (by have := bl3.size; simp at this; omega))
  have HA4 : Hid (AliveAt w w4) := (HA.out.keep (b3 _)).keep (bl5.mono (by simp))
  have HX4 : Hid (MsAt w4 xv aliveM) := (HX.out.1.below (Nat.le_refl _) (b3 _)).below (Nat.le_refl _) (bl5.mono (by simp))
  have xb := fun j => bl5.cell (p := ⟨w2.heap.size, j, none⟩) (by show w2.heap.size < _; omega)
  have sz4 := bl5.size
  simp at sz4
  clear c0 c1 c2 c3 bl3 bl4 bl5 H3 b3
  have c0 := HA4.out.c0
  have c1 := HA4.out.c1
  have c2 := HA4.out.c2
  have c3 := HA4.out.c3
  have qs : aliveS.toList = [97, 115, 107, 32, 47, 97, 10, 107, 61, 118, 32, 119, 10, 10, 98, 10, 99] := by rw [toList_eq]; rfl
  go_wp2_with fail
  refine (same_any aliveM aliveM _ _ _ HA4.out.ms (by rw [← HX.out.2]; exact HX4.out)).mono ?_
  rintro e w5 ⟨rfl, bl5⟩
  rw [alive_same]
  have HA5 : Hid (AliveAt w w5) := HA4.out.keep bl5
  clear c0 c1 c2 c3 HA4 HX4 bl5 xb sz4
  have c0 := HA5.out.c0
  have c1 := HA5.out.c1
  have c2 := HA5.out.c2
  have c3 := HA5.out.c3
  go_wp2_with fail
  refine (wrong_any aliveM _ _ HA5.out.ms).mono ?_
  rintro e w6 ⟨rfl, bl6⟩
  rw [alive_wrong]
  have HA6 : Hid (AliveAt w w6) := HA5.out.keep bl6
  clear c0 c1 c2 c3 HA5 bl6
  go_wp2_with fail
  refine (key_any _ _ (by decide)).mono ?_
  rintro e w7 ⟨rfl, hw7⟩
  subst hw7
  rw [alive_key]
  go_wp2_with fail
  refine (path_any _ _ (by decide)).mono ?_
  rintro e w7 ⟨rfl, hw7⟩
  subst hw7
  rw [alive_path]
  go_wp2_with fail
  refine (answer_any 404 _ _ (by decide)).mono ?_
  rintro e w8 ⟨bo8, d8, rfl, _, bl8⟩
  have HA8 : Hid (AliveAt w w8) := HA6.out.keep bl8
  have fd0 := field0
  have fd2 := field2
  clear HA6 bl8
  have c0 := HA8.out.c0
  have c1 := HA8.out.c1
  have c2 := HA8.out.c2
  have c3 := HA8.out.c3
  go_wp2_with fail
  refine (own_any aliveM _ _ HA8.out.ms).mono ?_
  rintro e w9 ⟨ao9, c9, bo9, d9, rfl, _, bl9⟩
  have HA9 : Hid (AliveAt w w9) := HA8.out.keep bl9
  clear HA8 bl9 c0 c1 c2 c3
  have hl : aliveM.heads.length = 1 := rfl
  go_wp2
  go_ret
  exact ⟨rfl, HA9.out.bl⟩
end Go.Proofs.YtlkfkhpokkjkpaaDoor
