/- Package caps: the first one that is wrong, of filters, ups and bads; limits; Wrong. -/
import Derived.Test.YtoibpgcdocegdaaCapB
namespace Go.Proofs.Ytoibpgcdocegdaa
open Go.RowKit

/-- A slice of structs, as it lies in a world: c are one's cells, k how many. -/
structure RowsAt {α : Type} (c : α → List Value) (k : Nat) (w : World) (ao : Option Addr) (l : List α) : Prop where
  lies : ∀ i (h : i < l.length), ∃ b off, ao = some ⟨b, off, none⟩ ∧ b < w.heap.size ∧ ∀ j v, (c l[i])[j]? = some v → w.cell? ⟨b, off + i * k + j, none⟩ = some v
  small : l.length ≤ maxLen
theorem RowsAt.below {α : Type} {c : α → List Value} {k : Nat} {w w' : World} {B : Nat} {ao : Option Addr} {l : List α} (h : RowsAt c k w ao l) (hB : w.heap.size ≤ B) (hb : Below B w w') : RowsAt c k w' ao l where
  lies i hi := by
    obtain ⟨b, off, h1, h2, h3⟩ := h.lies i hi
    have hsz := hb.size
    exact ⟨b, off, h1, by omega, fun j v hj => by rw [hb.cell (p := ⟨b, off + i * k + j, none⟩) (by show b < B; omega)]; exact h3 j v hj⟩
  small := h.small

/-- What the first one is that is wrong, and its number; 0 and -1 if none is. -/
def firstF {α : Type} (f : α → Int) : List α → Nat → Int × Int
  | [], _ => (0, -1)
  | x :: t, j => if f x = 0 then firstF f t (j + 1) else (f x, j)
theorem firstF_end {α : Type} (f : α → Int) (l : List α) (i : Nat) (h : l.length ≤ i) : firstF f (l.drop i) i = (0, -1) := by
  rw [List.drop_eq_nil_of_le h]; rfl
theorem firstF_go {α : Type} (f : α → Int) (l : List α) (i : Nat) (h : i < l.length) (h0 : f l[i] = 0) : firstF f (l.drop i) i = firstF f (l.drop (i + 1)) (i + 1) := by
  rw [List.drop_eq_getElem_cons h, firstF, if_pos h0]
theorem firstF_stop {α : Type} (f : α → Int) (l : List α) (i : Nat) (h : i < l.length) (h0 : f l[i] ≠ 0) : firstF f (l.drop i) i = (f l[i], (i : Int)) := by
  rw [List.drop_eq_getElem_cons h, firstF, if_neg h0]

def svOk (l : List Sv) : Prop := ∀ s ∈ l, s.key.size ≤ maxLen ∧ s.text.size ≤ maxLen
def upOk (l : List Up) : Prop := ∀ s ∈ l, s.text.size ≤ maxLen ∧ s.path.size ≤ maxLen
def bdOk (l : List Bd) : Prop := ∀ s ∈ l, s.text.size ≤ maxLen

set_option maxRecDepth 100000 in
set_option maxHeartbeats 1000000 in
theorem firstSv_any (l : List Sv) (ao : Option Addr) (c : Nat) (w : World) (hl : RowsAt svL 4 w ao l) (ok : svOk l) :
    Calls Try.prog 13 #[.slice ao l.length c, .func (.func 14) #[] #[]] w fun e w' => e = .returned (.tuple #[.int .i64 (firstF svE l 0).1, .int .i64 (firstF svE l 0).2]) ∧ Below w.heap.size w w' := by
  have hsm := hl.small
  unfold maxLen at hsm
  have HL : Hid (RowsAt svL 4 w ao l) := hl
  have eg := enters14
  clear hl
  go_enter Try.func13, Try.ntmps13
  go_wp2
  go_loopw [11] (fun i wr => ∃ k : Nat, k ≤ l.length ∧ i = .int .i64 k ∧ Hid (Below w.heap.size w wr) ∧ Hid (firstF svE l 0 = firstF svE (l.drop k) k)) (fun i _ => l.length - (intOf i).toNat)
  case atStart => exact ⟨0, by omega, rfl, Below.refl _ _, rfl⟩
  case round =>
    obtain ⟨k, hk, rfl, HB, HF⟩ := hrel
    by_cases hlt : k < l.length
    · have hb := HL.out.below (Nat.le_refl _) HB.out
      obtain ⟨b, off, rfl, hbl, hc⟩ := hb.lies k hlt
      have c0 : wr.cell? ⟨b, off + k * 4, none⟩ = some (.int .i64 l[k].k) := hc 0 _ rfl
      have c1 : wr.cell? ⟨b, off + k * 4 + 1, none⟩ = some (.int .i64 l[k].n) := hc 1 _ rfl
      have c2 : wr.cell? ⟨b, off + k * 4 + 2, none⟩ = some (.string l[k].key) := hc 2 _ rfl
      have c3 : wr.cell? ⟨b, off + k * 4 + 3, none⟩ = some (.string l[k].text) := hc 3 _ rfl
      have hlt' : (k : Int) < (l.length : Int) := by omega
      have OK : Hid (l[k].key.size ≤ maxLen ∧ l[k].text.size ≤ maxLen) := ok _ (List.getElem_mem hlt)
      have S := HB.out.size
      clear hb hc
      by_cases h0 : svE l[k] = 0
      · have HC : Hid (∀ W, Calls Try.prog 14 #[.agg #[.int .i64 l[k].k, .int .i64 l[k].n, .string l[k].key, .string l[k].text]] W fun e w' => e = .returned (.int .i64 0) ∧ Below W.heap.size W w') := by
          intro W
          rw [← h0]
          exact swrong_any _ _ _ _ W OK.out.1 OK.out.2
        have HG : Hid (firstF svE l 0 = firstF svE (l.drop (k + 1)) (k + 1)) := HF.out.trans (firstF_go svE l k hlt h0)
        clear h0
        go_wp2_with (go_at_fn 14; refine (HC.out _).mono ?_; rintro e w' ⟨rfl, hb'⟩)
        go_roundw
        case rel => exact ⟨k + 1, by omega, by go_num, (HB.out.alloc S _).trans (hb'.mono (by simp; omega)), HG⟩
        case measure => simp [intOf]; omega
      · have HC : Hid (∀ W, Calls Try.prog 14 #[.agg #[.int .i64 l[k].k, .int .i64 l[k].n, .string l[k].key, .string l[k].text]] W fun e w' => e = .returned (.int .i64 (svE l[k])) ∧ Below W.heap.size W w') := fun W => swrong_any _ _ _ _ W OK.out.1 OK.out.2
        have HG : Hid (firstF svE l 0 = (svE l[k], (k : Int))) := HF.out.trans (firstF_stop svE l k hlt h0)
        have h0' : (svE l[k] == 0) = false := by simpa using h0
        generalize svE l[k] = E at HC h0' HG
        clear h0
        go_wp2_with (go_at_fn 14; refine (HC.out _).mono ?_; rintro e w' ⟨rfl, hb'⟩)
        refine bodyPost_ret (v := .tuple #[.int .i64 E, .int .i64 (k : Int)]) (by simp [results, Try.results13, go_sem]) rfl ⟨by rw [HG.out], ?_⟩
        exact (HB.out.alloc S _).trans (hb'.mono (by simp; omega))
    · have HG : Hid (firstF svE l 0 = (0, -1)) := HF.out.trans (firstF_end svE l k (by omega))
      go_wp2
      refine bodyPost_ret (v := .tuple #[.int .i64 0, .int .i64 (-1)]) (by simp [results, Try.results13, go_sem]) rfl ⟨by rw [HG.out], ?_⟩
      exact HB.out

set_option maxRecDepth 100000 in
set_option maxHeartbeats 1000000 in
theorem firstUp_any (l : List Up) (ao : Option Addr) (c : Nat) (w : World) (hl : RowsAt upL 4 w ao l) (ok : upOk l) :
    Calls Try.prog 15 #[.slice ao l.length c, .func (.func 16) #[] #[]] w fun e w' => e = .returned (.tuple #[.int .i64 (firstF upE l 0).1, .int .i64 (firstF upE l 0).2]) ∧ Below w.heap.size w w' := by
  have hsm := hl.small
  unfold maxLen at hsm
  have HL : Hid (RowsAt upL 4 w ao l) := hl
  have eg := enters16
  clear hl
  go_enter Try.func15, Try.ntmps15
  go_wp2
  go_loopw [11] (fun i wr => ∃ k : Nat, k ≤ l.length ∧ i = .int .i64 k ∧ Hid (Below w.heap.size w wr) ∧ Hid (firstF upE l 0 = firstF upE (l.drop k) k)) (fun i _ => l.length - (intOf i).toNat)
  case atStart => exact ⟨0, by omega, rfl, Below.refl _ _, rfl⟩
  case round =>
    obtain ⟨k, hk, rfl, HB, HF⟩ := hrel
    by_cases hlt : k < l.length
    · have hb := HL.out.below (Nat.le_refl _) HB.out
      obtain ⟨b, off, rfl, hbl, hc⟩ := hb.lies k hlt
      have c0 : wr.cell? ⟨b, off + k * 4, none⟩ = some (.string l[k].path) := hc 0 _ rfl
      have c1 : wr.cell? ⟨b, off + k * 4 + 1, none⟩ = some (.int .i64 l[k].st) := hc 1 _ rfl
      have c2 : wr.cell? ⟨b, off + k * 4 + 2, none⟩ = some (.string l[k].text) := hc 2 _ rfl
      have c3 : wr.cell? ⟨b, off + k * 4 + 3, none⟩ = some (.int .i64 l[k].fails) := hc 3 _ rfl
      have hlt' : (k : Int) < (l.length : Int) := by omega
      have OK : Hid (l[k].text.size ≤ maxLen ∧ l[k].path.size ≤ maxLen) := ok _ (List.getElem_mem hlt)
      have S := HB.out.size
      clear hb hc
      by_cases h0 : upE l[k] = 0
      · have HC : Hid (∀ W, Calls Try.prog 16 #[.agg #[.string l[k].path, .int .i64 l[k].st, .string l[k].text, .int .i64 l[k].fails]] W fun e w' => e = .returned (.int .i64 0) ∧ Below W.heap.size W w') := by
          intro W
          rw [← h0]
          exact wrongUp_any _ W OK.out.1 OK.out.2
        have HG : Hid (firstF upE l 0 = firstF upE (l.drop (k + 1)) (k + 1)) := HF.out.trans (firstF_go upE l k hlt h0)
        clear h0
        go_wp2_with (go_at_fn 16; refine (HC.out _).mono ?_; rintro e w' ⟨rfl, hb'⟩)
        go_roundw
        case rel => exact ⟨k + 1, by omega, by go_num, (HB.out.alloc S _).trans (hb'.mono (by simp; omega)), HG⟩
        case measure => simp [intOf]; omega
      · have HC : Hid (∀ W, Calls Try.prog 16 #[.agg #[.string l[k].path, .int .i64 l[k].st, .string l[k].text, .int .i64 l[k].fails]] W fun e w' => e = .returned (.int .i64 (upE l[k])) ∧ Below W.heap.size W w') := fun W => wrongUp_any _ W OK.out.1 OK.out.2
        have HG : Hid (firstF upE l 0 = (upE l[k], (k : Int))) := HF.out.trans (firstF_stop upE l k hlt h0)
        have h0' : (upE l[k] == 0) = false := by simpa using h0
        generalize upE l[k] = E at HC h0' HG
        clear h0
        go_wp2_with (go_at_fn 16; refine (HC.out _).mono ?_; rintro e w' ⟨rfl, hb'⟩)
        refine bodyPost_ret (v := .tuple #[.int .i64 E, .int .i64 (k : Int)]) (by simp [results, Try.results15, go_sem]) rfl ⟨by rw [HG.out], ?_⟩
        exact (HB.out.alloc S _).trans (hb'.mono (by simp; omega))
    · have HG : Hid (firstF upE l 0 = (0, -1)) := HF.out.trans (firstF_end upE l k (by omega))
      go_wp2
      refine bodyPost_ret (v := .tuple #[.int .i64 0, .int .i64 (-1)]) (by simp [results, Try.results15, go_sem]) rfl ⟨by rw [HG.out], ?_⟩
      exact HB.out

set_option maxRecDepth 100000 in
set_option maxHeartbeats 1000000 in
theorem firstBd_any (l : List Bd) (ao : Option Addr) (c : Nat) (w : World) (hl : RowsAt bdL 5 w ao l) (ok : bdOk l) :
    Calls Try.prog 17 #[.slice ao l.length c, .func (.func 18) #[] #[]] w fun e w' => e = .returned (.tuple #[.int .i64 (firstF bdE l 0).1, .int .i64 (firstF bdE l 0).2]) ∧ Below w.heap.size w w' := by
  have hsm := hl.small
  unfold maxLen at hsm
  have HL : Hid (RowsAt bdL 5 w ao l) := hl
  have eg := enters18
  clear hl
  go_enter Try.func17, Try.ntmps17
  go_wp2
  go_loopw [11] (fun i wr => ∃ k : Nat, k ≤ l.length ∧ i = .int .i64 k ∧ Hid (Below w.heap.size w wr) ∧ Hid (firstF bdE l 0 = firstF bdE (l.drop k) k)) (fun i _ => l.length - (intOf i).toNat)
  case atStart => exact ⟨0, by omega, rfl, Below.refl _ _, rfl⟩
  case round =>
    obtain ⟨k, hk, rfl, HB, HF⟩ := hrel
    by_cases hlt : k < l.length
    · have hb := HL.out.below (Nat.le_refl _) HB.out
      obtain ⟨b, off, rfl, hbl, hc⟩ := hb.lies k hlt
      have c0 : wr.cell? ⟨b, off + k * 5, none⟩ = some (.int .i64 l[k].id) := hc 0 _ rfl
      have c1 : wr.cell? ⟨b, off + k * 5 + 1, none⟩ = some (.int .i64 l[k].fi) := hc 1 _ rfl
      have c2 : wr.cell? ⟨b, off + k * 5 + 2, none⟩ = some (.int .i64 l[k].call) := hc 2 _ rfl
      have c3 : wr.cell? ⟨b, off + k * 5 + 3, none⟩ = some (.int .i64 l[k].act) := hc 3 _ rfl
      have c4 : wr.cell? ⟨b, off + k * 5 + 4, none⟩ = some (.string l[k].text) := hc 4 _ rfl
      have hlt' : (k : Int) < (l.length : Int) := by omega
      have OK : Hid (l[k].text.size ≤ maxLen) := ok _ (List.getElem_mem hlt)
      have S := HB.out.size
      clear hb hc
      by_cases h0 : bdE l[k] = 0
      · have HC : Hid (∀ W, Calls Try.prog 18 #[.agg #[.int .i64 l[k].id, .int .i64 l[k].fi, .int .i64 l[k].call, .int .i64 l[k].act, .string l[k].text]] W fun e w' => e = .returned (.int .i64 0) ∧ Below W.heap.size W w') := by
          intro W
          rw [← h0]
          exact wrongBad_any _ W OK.out
        have HG : Hid (firstF bdE l 0 = firstF bdE (l.drop (k + 1)) (k + 1)) := HF.out.trans (firstF_go bdE l k hlt h0)
        clear h0
        go_wp2_with (go_at_fn 18; refine (HC.out _).mono ?_; rintro e w' ⟨rfl, hb'⟩)
        go_roundw
        case rel => exact ⟨k + 1, by omega, by go_num, (HB.out.alloc S _).trans (hb'.mono (by simp; omega)), HG⟩
        case measure => simp [intOf]; omega
      · have HC : Hid (∀ W, Calls Try.prog 18 #[.agg #[.int .i64 l[k].id, .int .i64 l[k].fi, .int .i64 l[k].call, .int .i64 l[k].act, .string l[k].text]] W fun e w' => e = .returned (.int .i64 (bdE l[k])) ∧ Below W.heap.size W w') := fun W => wrongBad_any _ W OK.out
        have HG : Hid (firstF bdE l 0 = (bdE l[k], (k : Int))) := HF.out.trans (firstF_stop bdE l k hlt h0)
        have h0' : (bdE l[k] == 0) = false := by simpa using h0
        generalize bdE l[k] = E at HC h0' HG
        clear h0
        go_wp2_with (go_at_fn 18; refine (HC.out _).mono ?_; rintro e w' ⟨rfl, hb'⟩)
        refine bodyPost_ret (v := .tuple #[.int .i64 E, .int .i64 (k : Int)]) (by simp [results, Try.results17, go_sem]) rfl ⟨by rw [HG.out], ?_⟩
        exact (HB.out.alloc S _).trans (hb'.mono (by simp; omega))
    · have HG : Hid (firstF bdE l 0 = (0, -1)) := HF.out.trans (firstF_end bdE l k (by omega))
      go_wp2
      refine bodyPost_ret (v := .tuple #[.int .i64 0, .int .i64 (-1)]) (by simp [results, Try.results17, go_sem]) rfl ⟨by rw [HG.out], ?_⟩
      exact HB.out

end Go.Proofs.Ytoibpgcdocegdaa
