/- Walks of Text. -/
import Derived.Test.YtlkfkhpokkjkpaaDoorMsgG
import Derived.Test.YtlkfkhpokkjkpaaDoorShelf
import Derived.Lib.SmallJoins
namespace Go.Proofs.YtlkfkhpokkjkpaaDoor
open Go.RowKit

/-- Bytes as a string. -/
def B (l : List UInt8) : ByteArray := ⟨l.toArray⟩
theorem B_data (l : List UInt8) : (B l).data.toList = l := by simp [B]
theorem B_size (l : List UInt8) : (B l).size = l.length := by simp [B, ByteArray.size]
theorem B_of (s : ByteArray) : B s.data.toList = s := by apply WideShapes.bytes_inj; rw [B_data]
theorem B_append (a b : List UInt8) : B a ++ B b = B (a ++ b) := by
  apply WideShapes.bytes_inj; simp [B]

def lineL (h : Hd) : List UInt8 := h.1.data.toList ++ [61] ++ h.2.data.toList ++ [10]
def headL (m : Ms) : List UInt8 := (if m.st = 0 then [97, 115, 107, 32] ++ m.path.data.toList else [115, 97, 121, 32] ++ Lib.itoa m.st) ++ [10]
def textL (m : Ms) : List UInt8 := headL m ++ m.heads.flatMap lineL ++ [10] ++ m.body.data.toList

def GlobT (w : World) : Prop := Lib.TabIs Tryd.prog w "internal/strconv.uint64pow10" .u64 Lib.pow10Tab

theorem GlobT.below {w w' : World} (h : GlobT w) (hb : Below w.heap.size w w') : GlobT w' :=
  Joins.tab_stays (by kernel_rfl : Tryd.prog.globalNamed "internal/strconv.uint64pow10" = some 2) h hb (Nat.le_refl _)
theorem below_growN (w : World) (k : Nat) (os : Array Obj) : Below w.heap.size w (Sort.grow (w.drewN k) os) :=
  ⟨rfl, rfl, rfl, by simp [Sort.grow], fun i hi => by simp [Sort.grow, Array.getElem?_append, hi]⟩
theorem itoa_short (n : Int) (h1 : 100 ≤ n) (h2 : n ≤ 599) : (Lib.itoa n).length ≤ 20 := by
  have h3 : ¬ n < 0 := by omega
  rw [Lib.itoa, if_neg h3, Lib.decDigits, dif_neg (by omega), Lib.decDigits, dif_neg (by omega), Lib.decDigits, dif_pos (by omega)]
  simp

set_option maxRecDepth 100000 in
set_option maxHeartbeats 1000000 in
theorem text_ask (m : Ms) (v : Value) (w : World) (hm : MsAt w v m) (hw : wrongE m = 0) (h0 : (m.st != 0) = false) (hps : m.path.size ≤ 24) (hlen : m.heads.length ≤ 6) (hbs : m.body.size ≤ 40) (hhs : ∀ h ∈ m.heads, h.1.size ≤ 8 ∧ h.2.size ≤ 20) :
    Calls Tryd.prog 8 #[v] w fun e w' => e = .returned (.tuple #[.string (B (textL m)), .int .i64 0]) ∧ Below w.heap.size w w' := by
  have hm' := fun o => hm.below (Nat.le_refl _) ((Below.refl w.heap.size w).alloc (Nat.le_refl _) o)
  obtain ⟨⟨ao, c, bo, d, rfl, a1, a2, _, _, n3, n4⟩, hp, R⟩ := hm
  clear R
  have HW : Hid (wrongE m = 0) := hw
  clear hw
  have i6 : (m.heads.length : Int) ≤ 6 := by omega
  have HL : Hid (headL m = [97, 115, 107, 32] ++ m.path.data.toList ++ [10]) := by
    show headL m = _
    have : m.st = 0 := by simpa using h0
    simp [headL, this]
  go_enter Tryd.func8, Tryd.ntmps8
  go_wp2_with fail
  refine (wrong_any m _ _ (hm' _)).mono ?_
  rintro e w1 ⟨rfl, bl⟩
  rw [HW.out]
  have hbx := fun j => bl.cell (p := ⟨w.heap.size, j, none⟩) (by simp)
  have hsz := bl.size
  simp at hsz
  go_wp2
  go_loopw [5, 28] (fun out i wr => ∃ (k : Nat) (acc : ByteArray), k ≤ m.heads.length ∧ i = .int .i64 k ∧ out = .string acc ∧ acc.size ≤ 29 + k * 30 ∧ Hid (acc.data.toList = headL m ++ (m.heads.take k).flatMap lineL) ∧ Below (w.heap.size + 1) (w.alloc (.cells #[.int .i64 m.st, .string m.path, .slice ao m.heads.length c, .slice bo m.body.size d] 25)) wr) (fun _ i _ => m.heads.length - (intOf i).toNat)
  case atStart => exact ⟨0, _, by omega, rfl, rfl, by
    simp only [ByteArray.size_append]
    have e1 : (ByteArray.mk #[97, 115, 107, 32]).size = 4 := rfl
    have e2 : (ByteArray.mk #[10]).size = 1 := rfl
    omega, by show _ = _; rw [HL.out]; simp, bl.mono (by simp)⟩
  case round =>
    obtain ⟨k, acc, hk, rfl, rfl, hac, HA, hbel⟩ := hrel
    have bw : Below w.heap.size w wr := ((Below.refl _ _).alloc (Nat.le_refl _) _).trans (hbel.mono (by omega))
    have hbx2 := fun j => hbel.cell (p := ⟨w.heap.size, j, none⟩) (by show w.heap.size < _; omega)
    have hsz2 := hbel.size
    simp at hsz2
    by_cases hlt : k < m.heads.length
    · obtain ⟨b, off, rfl, hb, c0, c1⟩ := a1.lies k hlt
      have hlt' : (k : Int) < (m.heads.length : Int) := by omega
      rw [← bw.cell (p := ⟨b, off + k * 2, none⟩) (by simpa using hb)] at c0
      rw [← bw.cell (p := ⟨b, off + k * 2 + 1, none⟩) (by simpa using hb)] at c1
      obtain ⟨z1, z2⟩ := hhs m.heads[k] (List.getElem_mem hlt)
      go_wp2
      go_roundw
      case rel =>
        refine ⟨k + 1, _, by omega, by go_num, rfl, ?_, ?_, hbel.alloc (by omega) _⟩
        · simp only [ByteArray.size_append]
          have e1 : (ByteArray.mk #[61]).size = 1 := rfl
          have e2 : (ByteArray.mk #[10]).size = 1 := rfl
          omega
        · show _ = _
          rw [List.take_succ_eq_append_getElem hlt, List.flatMap_append, ← List.append_assoc, ← HA.out]
          simp [lineL]
      case measure => simp [intOf]; omega
    · have hcv := conv_body (a2.below (Nat.le_refl _) bw) d
      go_wp2
      go_ret2
      refine ⟨?_, bw⟩
      have e : acc ++ ByteArray.mk #[10] ++ m.body = B (textL m) := by
        apply WideShapes.bytes_inj
        rw [B_data, textL]
        have hk2 : k = m.heads.length := by omega
        have h2 := HA.out
        rw [hk2, List.take_length] at h2
        simp [h2]
      rw [← e]
      rfl
set_option maxRecDepth 100000 in
set_option maxHeartbeats 1000000 in
theorem text_say (m : Ms) (v : Value) (w : World) (hm : MsAt w v m) (hw : wrongE m = 0) (h0 : (m.st != 0) = true) (hst : 100 ≤ m.st ∧ m.st ≤ 599) (hg : GlobT w) (hps : m.path.size ≤ 24) (hlen : m.heads.length ≤ 6) (hbs : m.body.size ≤ 40) (hhs : ∀ h ∈ m.heads, h.1.size ≤ 8 ∧ h.2.size ≤ 20) :
    Calls Tryd.prog 8 #[v] w fun e w' => e = .returned (.tuple #[.string (B (textL m)), .int .i64 0]) ∧ Below w.heap.size w w' := by
  have hm' := fun o => hm.below (Nat.le_refl _) ((Below.refl w.heap.size w).alloc (Nat.le_refl _) o)
  obtain ⟨⟨ao, c, bo, d, rfl, a1, a2, _, _, n3, n4⟩, hp, R⟩ := hm
  clear R
  have HW : Hid (wrongE m = 0) := hw
  clear hw
  have i6 : (m.heads.length : Int) ≤ 6 := by omega
  have HL : Hid (headL m = [115, 97, 121, 32] ++ Lib.itoa m.st ++ [10]) := by
    show headL m = _
    have : ¬ m.st = 0 := by simpa using h0
    simp [headL, this]
  have hg' := fun o => GlobT.below hg ((Below.refl w.heap.size w).alloc (Nat.le_refl _) o)
  have HI : Hid ((Lib.itoa m.st).length ≤ 20) := itoa_short m.st hst.1 hst.2
  have HST : Hid (100 ≤ m.st ∧ m.st ≤ 599) := hst
  clear hst
  go_enter Tryd.func8, Tryd.ntmps8
  go_wp2_with fail
  refine (wrong_any m _ _ (hm' _)).mono ?_
  rintro e w1 ⟨rfl, bl⟩
  rw [HW.out]
  have hbx := fun j => bl.cell (p := ⟨w.heap.size, j, none⟩) (by simp)
  have hsz := bl.size
  simp at hsz
  go_wp2_with fail
  refine (Tryd.strconv_Itoa m.st (by have := HST.out; omega) (by have := HST.out; omega) _ (GlobT.below (hg' _) bl)).mono ?_
  rintro e w2 ⟨rfl, kk, os, hw2⟩
  have bl2 : Below w1.heap.size w1 w2 := by rw [hw2]; exact below_growN w1 kk os
  clear hw2
  have hbx2 := fun j => bl2.cell (p := ⟨w.heap.size, j, none⟩) (by show w.heap.size < _; omega)
  obtain ⟨t, ht, HT⟩ : ∃ t : ByteArray, ByteArray.mk (Lib.itoa m.st).toArray = t ∧ Hid (t.data.toList = Lib.itoa m.st) := ⟨_, rfl, by show _ = _; simp⟩
  rw [ht]
  have hts : t.size ≤ 20 := by rw [← ht]; show (Lib.itoa m.st).toArray.size ≤ 20; simpa using HI.out
  clear ht
  go_wp2
  go_loopw [5, 28] (fun out i wr => ∃ (k : Nat) (acc : ByteArray), k ≤ m.heads.length ∧ i = .int .i64 k ∧ out = .string acc ∧ acc.size ≤ 29 + k * 30 ∧ Hid (acc.data.toList = headL m ++ (m.heads.take k).flatMap lineL) ∧ Below (w.heap.size + 1) (w.alloc (.cells #[.int .i64 m.st, .string m.path, .slice ao m.heads.length c, .slice bo m.body.size d] 25)) wr) (fun _ i _ => m.heads.length - (intOf i).toNat)
  case atStart => exact ⟨0, _, by omega, rfl, rfl, by
    simp only [ByteArray.size_append]
    have e1 : (ByteArray.mk #[115, 97, 121, 32]).size = 4 := rfl
    have e2 : (ByteArray.mk #[10]).size = 1 := rfl
    omega, by show _ = _; rw [HL.out, ← HT.out]; simp, (bl.mono (by simp)).trans (bl2.mono (by omega))⟩
  case round =>
    obtain ⟨k, acc, hk, rfl, rfl, hac, HA, hbel⟩ := hrel
    have bw : Below w.heap.size w wr := ((Below.refl _ _).alloc (Nat.le_refl _) _).trans (hbel.mono (by omega))
    have hbx2 := fun j => hbel.cell (p := ⟨w.heap.size, j, none⟩) (by show w.heap.size < _; omega)
    have hsz2 := hbel.size
    simp at hsz2
    by_cases hlt : k < m.heads.length
    · obtain ⟨b, off, rfl, hb, c0, c1⟩ := a1.lies k hlt
      have hlt' : (k : Int) < (m.heads.length : Int) := by omega
      rw [← bw.cell (p := ⟨b, off + k * 2, none⟩) (by simpa using hb)] at c0
      rw [← bw.cell (p := ⟨b, off + k * 2 + 1, none⟩) (by simpa using hb)] at c1
      obtain ⟨z1, z2⟩ := hhs m.heads[k] (List.getElem_mem hlt)
      go_wp2
      go_roundw
      case rel =>
        refine ⟨k + 1, _, by omega, by go_num, rfl, ?_, ?_, hbel.alloc (by omega) _⟩
        · simp only [ByteArray.size_append]
          have e1 : (ByteArray.mk #[61]).size = 1 := rfl
          have e2 : (ByteArray.mk #[10]).size = 1 := rfl
          omega
        · show _ = _
          rw [List.take_succ_eq_append_getElem hlt, List.flatMap_append, ← List.append_assoc, ← HA.out]
          simp [lineL]
      case measure => simp [intOf]; omega
    · have hcv := conv_body (a2.below (Nat.le_refl _) bw) d
      go_wp2
      go_ret2
      refine ⟨?_, bw⟩
      have e : acc ++ ByteArray.mk #[10] ++ m.body = B (textL m) := by
        apply WideShapes.bytes_inj
        rw [B_data, textL]
        have hk2 : k = m.heads.length := by omega
        have h2 := HA.out
        rw [hk2, List.take_length] at h2
        simp [h2]
      rw [← e]
      rfl

theorem allB_at {p : Int → Bool} {s : ByteArray} (h : allB p s = true) : ∀ b ∈ s.data.toList, p (b.toNat : Int) = true := by
  unfold allB at h; rw [List.all_eq_true] at h; exact h
theorem keyB_size {s : ByteArray} (h : keyB s = true) : s.size ≤ 8 := by
  unfold keyB at h; simp only [Bool.and_eq_true, decide_eq_true_eq] at h; omega
theorem linB_size {s : ByteArray} (h : linB s = true) : s.size ≤ 20 := by
  unfold linB at h; simp only [Bool.and_eq_true, decide_eq_true_eq] at h; omega
theorem pthB_size {s : ByteArray} (h : pthB s = true) : s.size ≤ 24 := by
  unfold pthB at h; simp only [Bool.and_eq_true, decide_eq_true_eq] at h; omega
theorem okHs_at {hs : List Hd} (h : okHs hs = true) (i : Nat) (hi : i < hs.length) : keyB hs[i].1 = true ∧ fndI hs[i].1 (hs.take i) < 0 ∧ linB hs[i].2 = true := by
  unfold okHs at h; rw [List.all_eq_true] at h
  have := h i (List.mem_range.2 hi)
  unfold goodAt at this
  rw [List.getElem?_eq_getElem hi] at this
  simpa [Bool.and_eq_true] using this

/-- What a right message is. -/
theorem right_parts {m : Ms} (h : wrongE m = 0) : m.heads.length ≤ 6 ∧ m.body.size ≤ 40 ∧ okHs m.heads = true ∧ (m.st = 0 ∧ pthB m.path = true ∨ m.st ≠ 0 ∧ 100 ≤ m.st ∧ m.st ≤ 599 ∧ m.path.toList = []) := by
  unfold wrongE at h
  by_cases c1 : m.st ≠ 0 ∧ (m.st < 100 ∨ 599 < m.st)
  · rw [if_pos c1] at h; cases h
  rw [if_neg c1] at h
  by_cases c2 : m.st = 0 ∧ pthB m.path = false
  · rw [if_pos c2] at h; cases h
  rw [if_neg c2] at h
  by_cases c3 : m.st ≠ 0 ∧ m.path.toList ≠ []
  · rw [if_pos c3] at h; cases h
  rw [if_neg c3] at h
  by_cases c4 : 6 < m.heads.length
  · rw [if_pos c4] at h; cases h
  rw [if_neg c4] at h
  by_cases c5 : 40 < m.body.size
  · rw [if_pos c5] at h; cases h
  rw [if_neg c5] at h
  by_cases c6 : okHs m.heads = true
  · refine ⟨by omega, by omega, c6, ?_⟩
    by_cases h0 : m.st = 0
    · left; refine ⟨h0, ?_⟩
      cases hp : pthB m.path
      · exact absurd ⟨h0, hp⟩ c2
      · rfl
    · right; refine ⟨h0, by omega, by omega, ?_⟩
      by_cases hp : m.path.toList = []
      · exact hp
      · exact absurd ⟨h0, hp⟩ c3
  · rw [if_neg c6] at h; cases h

theorem text_right (m : Ms) (v : Value) (w : World) (hm : MsAt w v m) (hw : wrongE m = 0) (hg : GlobT w) :
    Calls Tryd.prog 8 #[v] w fun e w' => e = .returned (.tuple #[.string (B (textL m)), .int .i64 0]) ∧ Below w.heap.size w w' := by
  obtain ⟨h1, h2, h3, h4⟩ := right_parts hw
  have hhs : ∀ h ∈ m.heads, h.1.size ≤ 8 ∧ h.2.size ≤ 20 := by
    intro h hh
    obtain ⟨i, hi, rfl⟩ := List.mem_iff_getElem.1 hh
    obtain ⟨k1, _, k3⟩ := okHs_at h3 i hi
    exact ⟨keyB_size k1, linB_size k3⟩
  rcases h4 with ⟨a, b⟩ | ⟨a, b, c, d⟩
  · exact text_ask m v w hm hw (by simp [a]) (pthB_size b) h1 h2 hhs
  · have hz : m.path.size = 0 := by
      have : m.path.data.toList.length = 0 := by rw [← toList_eq, d]; rfl
      simpa using this
    exact text_say m v w hm hw (by simp [a]) ⟨b, c⟩ hg (by omega) h1 h2 hhs

set_option maxHeartbeats 1000000 in
theorem text_wrong (m : Ms) (v : Value) (w : World) (hm : MsAt w v m) (hw : wrongE m ≠ 0) :
    Calls Tryd.prog 8 #[v] w fun e w' => e = .returned (.tuple #[.string (B []), .int .i64 (wrongE m)]) ∧ Below w.heap.size w w' := by
  have hm' := fun o => hm.below (Nat.le_refl _) ((Below.refl w.heap.size w).alloc (Nat.le_refl _) o)
  obtain ⟨⟨ao, c, bo, d, rfl, a1, a2, _, _, n3, n4⟩, hp, R⟩ := hm
  clear R
  obtain ⟨r, hr⟩ : ∃ r, wrongE m = r := ⟨_, rfl⟩
  have HR : Hid (wrongE m = r) := hr
  rw [hr] at hw ⊢
  clear hr
  have hb : (r != 0) = true := by simpa using hw
  go_enter Tryd.func8, Tryd.ntmps8
  go_wp2_with fail
  refine (wrong_any m _ _ (hm' _)).mono ?_
  rintro e w1 ⟨rfl, bl⟩
  rw [HR.out]
  go_wp2
  go_ret2
  exact ⟨rfl, ((Below.refl w.heap.size w).alloc (Nat.le_refl _) _).trans (bl.mono (by simp))⟩
end Go.Proofs.YtlkfkhpokkjkpaaDoor
