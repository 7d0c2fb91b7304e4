/- Walks of the document's own answer: of, small, Key, Path, Line. -/
import Derived.Test.YtbpmcabeghbalaaMsgA
import Derived.BigQuiet
import Derived.Deep.QuietTactic
import Derived.Lib.QuietBelow
import Derived.Below
namespace Go.Proofs.Ytbpmcabeghbalaa
open Go.RowKit

theorem belDrewN {B : Nat} {a w : World} (h : Below B a w) (n : Nat) : Below B a (w.drewN n) := ⟨h.os, h.tape, h.output, h.size, h.block⟩

/-- Is a byte in a list, up to a place? -/
def inB (bs : ByteArray) (c : UInt8) (k : Nat) : Bool := (bs.data.toList.take k).contains c
theorem inB_zero (bs : ByteArray) (c : UInt8) : inB bs c 0 = false := by simp [inB]
theorem inB_succ (bs : ByteArray) (c : UInt8) (k : Nat) (h : k < bs.size) : inB bs c (k + 1) = (inB bs c k || (c == bs[k])) := by
  unfold inB
  have h' : k < bs.data.toList.length := by simpa using h
  rw [List.take_succ_eq_append_getElem h']
  simp
  rfl
theorem byte_beq (a b : UInt8) : (((a.toNat : Int)) == (b.toNat : Int)) = (b == a) := by
  by_cases h : a = b
  · subst h; simp
  · have : ¬ a.toNat = b.toNat := fun e => h (UInt8.toNat_inj.1 e)
    have h2 : ¬ b = a := fun e => h e.symm
    rw [beq_eq_false_iff_ne.2 h2, beq_eq_false_iff_ne]
    omega

def ofB (s bs : ByteArray) (least most : Int) : Bool := (s.data.toList.all fun c => bs.data.toList.contains c) && (decide (least ≤ (s.size : Int)) && decide ((s.size : Int) ≤ most))

set_option maxHeartbeats 1000000 in
theorem of_any (s bs : ByteArray) (least most : Int) (w : World) (hs : s.size ≤ maxLen) (hb : bs.size ≤ maxLen) :
    Calls Try.prog 16 #[.string s, .string bs, .int .i64 least, .int .i64 most] w fun e w' => e = .returned (.bool (ofB s bs least most)) ∧ ∃ n, w' = w.drewN n := by
  unfold maxLen at hs hb
  generalize hr : ofB s bs least most = r
  have HR : Hid (ofB s bs least most = r) := hr
  clear hr
  go_enter Try.func16, Try.ntmps16
  go_wp2
  go_loopw [14] (fun i wr => ∃ k n : Nat, k ≤ s.size ∧ i = .int .i64 k ∧ wr = w.drewN n ∧ Hid (∀ j (h : j < s.size), j < k → bs.data.toList.contains s[j] = true)) (fun i _ => s.size - (intOf i).toNat)
  case atStart => exact ⟨0, 0, by omega, rfl, rfl, fun _ _ h => absurd h (by omega)⟩
  case round =>
    obtain ⟨k, n, hk, rfl, rfl, HN⟩ := hrel
    by_cases hlt : k < s.size
    · have hlt' : (k : Int) < (s.size : Int) := by omega
      go_wp2
      go_loopw [10, 19] (fun ok i wr => ∃ j m : Nat, j ≤ bs.size ∧ i = .int .i64 j ∧ wr = w.drewN m ∧ ok = .bool (inB bs s[k] j)) (fun _ i _ => bs.size - (intOf i).toNat)
      case atStart => exact ⟨0, n, by omega, rfl, rfl, by rw [inB_zero]⟩
      case round =>
        obtain ⟨j, m, hj, rfl, rfl, rfl⟩ := hrel
        by_cases hjl : j < bs.size
        · have hjl' : (j : Int) < (bs.size : Int) := by omega
          have HI : Hid (inB bs s[k] (j + 1) = (inB bs s[k] j || (s[k] == bs[j]))) := inB_succ bs s[k] j hjl
          obtain ⟨b, hb'⟩ : ∃ b, inB bs s[k] j = b := ⟨_, rfl⟩
          rw [hb']
          have HB : Hid (inB bs s[k] j = b) := hb'
          clear hb'
          cases b with
          | true =>
            go_wp2
            go_quiet (fail)
            go_wp2
            go_roundw
            case rel => exact ⟨j + 1, m + nq, by omega, by go_num, by first | rfl | rw [World.drewN_drewN], by rw [HI.out, HB.out]; rfl⟩
            case measure => simp [intOf]; omega
          | false =>
            go_wp2
            go_quiet (fail)
            go_wp2
            go_roundw
            case rel => exact ⟨j + 1, m + nq, by omega, by go_num, by first | rfl | rw [World.drewN_drewN], by rw [HI.out, HB.out, Bool.false_or, ← byte_beq]⟩
            case measure => simp [intOf]; omega
        · have hje : j = bs.size := by omega
          obtain ⟨b, hb'⟩ : ∃ b, inB bs s[k] j = b := ⟨_, rfl⟩
          rw [hb']
          have HB : Hid (bs.data.toList.contains s[k] = b) := by
            show _ = b
            rw [← hb', hje, inB, List.take_of_length_le (by simp)]
          clear hb' hje
          cases b with
          | true =>
            go_wp2
            go_roundw
            case rel => exact ⟨k + 1, m, by omega, by go_num, rfl, fun i hi hik => by
              by_cases e : i = k
              · subst e; exact HB.out
              · exact HN.out i hi (by omega)⟩
            case measure => simp [intOf]; omega
          | false =>
            go_wp2
            go_ret
            refine ⟨ret_bool ?_, m, rfl⟩
            have : (s.data.toList.all fun c => bs.data.toList.contains c) = false := by
              rw [List.all_eq_false]
              exact ⟨s[k], by rw [List.mem_iff_getElem]; exact ⟨k, by simpa using hlt, rfl⟩, by rw [HB.out]; simp⟩
            rw [← HR.out, ofB, this]; rfl
    · have : (s.data.toList.all fun c => bs.data.toList.contains c) = true := by
        rw [List.all_eq_true]
        intro b hb
        obtain ⟨j, hj, rfl⟩ := List.mem_iff_getElem.1 hb
        exact HN.out j (by simpa using hj) (by have : j < s.size := by simpa using hj
                                               omega)
      have HA : Hid ((s.data.toList.all fun c => bs.data.toList.contains c) = true) := this
      clear this
      by_cases h1 : least ≤ (s.size : Int)
      · go_wp2
        go_ret
        refine ⟨ret_bool ?_, n, rfl⟩
        rw [← HR.out, ofB, HA.out, decide_eq_true h1]; rfl
      · have h1' : decide (least ≤ (s.size : Int)) = false := by simpa using h1
        go_wp2
        go_ret
        refine ⟨ret_bool ?_, n, rfl⟩
        rw [← HR.out, ofB, HA.out, h1']; rfl

def smallS : ByteArray := ⟨#[97, 98, 99, 100, 101, 102, 103, 104, 105, 106, 107, 108, 109, 110, 111, 112, 113, 114, 115, 116, 117, 118, 119, 120, 121, 122]⟩
def pathS : ByteArray := ⟨#[97, 98, 99, 100, 101, 102, 103, 104, 105, 106, 107, 108, 109, 110, 111, 112, 113, 114, 115, 116, 117, 118, 119, 120, 121, 122, 48, 49, 50, 51, 52, 53, 54, 55, 56, 57, 47]⟩
theorem byte_all {f g : UInt8 → Bool} (h : ∀ n : Fin 256, f (UInt8.ofNat n.val) = g (UInt8.ofNat n.val)) (c : UInt8) : f c = g c := by
  have := h ⟨c.toNat, c.toNat_lt⟩
  simpa using this
theorem small_in (c : UInt8) : smallS.data.toList.contains c = smallB (c.toNat : Int) :=
  byte_all (f := fun c => smallS.data.toList.contains c) (g := fun c => smallB (c.toNat : Int)) (by decide +kernel) c
theorem path_in (c : UInt8) : pathS.data.toList.contains c = pathB (c.toNat : Int) :=
  byte_all (f := fun c => pathS.data.toList.contains c) (g := fun c => pathB (c.toNat : Int)) (by decide +kernel) c
theorem toList_ne (s : ByteArray) : decide (s.toList ≠ []) = decide ((1 : Int) ≤ (s.size : Int)) := by
  rw [toList_eq]
  have h : s.data.toList.length = s.size := by simp
  by_cases e : s.data.toList = []
  · rw [e] at h; simp at h
    rw [decide_eq_false (by simp [e]), decide_eq_false (by omega)]
  · have : 0 < s.data.toList.length := List.length_pos_iff.2 e
    rw [decide_eq_true (by exact e), decide_eq_true (by omega)]
theorem key_is (s : ByteArray) : ofB s smallS 1 8 = keyB s := by
  unfold ofB keyB allB
  rw [toList_ne]
  simp only [small_in]
  cases (s.data.toList.all fun c => smallB (c.toNat : Int)) <;> cases decide ((1 : Int) ≤ (s.size : Int)) <;> cases decide ((s.size : Int) ≤ 8) <;> rfl

set_option maxHeartbeats 400000 in
theorem rsmall_any (w : World) : Calls Try.prog 17 #[] w fun e w' => e = .returned (.string smallS) ∧ w' = w := by
  go_enter Try.func17, Try.ntmps17
  go_wp2
  go_ret
  exact ⟨rfl, rfl⟩
set_option maxHeartbeats 400000 in
theorem rkey_any (s : ByteArray) (w : World) (hs : s.size ≤ maxLen) :
    Calls Try.prog 13 #[.string s] w fun e w' => e = .returned (.bool (keyB s)) ∧ ∃ n, w' = w.drewN n := by
  rw [← key_is]
  go_enter Try.func13, Try.ntmps13
  go_wp2_with fail
  refine (rsmall_any _).mono ?_
  rintro e w1 ⟨rfl, rfl⟩
  go_wp2_with fail
  refine (of_any s smallS 1 8 _ hs (by decide)).mono ?_
  rintro e w2 ⟨rfl, n, rfl⟩
  go_wp2
  go_ret
  exact ⟨rfl, n, rfl⟩
theorem path_of (s : ByteArray) : pthB s = (ofB s pathS 1 24 && (if h : 0 < s.size then (s[0].toNat : Int) == 47 else false)) := by
  unfold ofB pthB allB
  rw [toList_ne]
  simp only [path_in]
  cases (s.data.toList.all fun c => pathB (c.toNat : Int)) <;> cases decide ((1 : Int) ≤ (s.size : Int)) <;> cases decide ((s.size : Int) ≤ 24) <;> cases (if h : 0 < s.size then (s[0].toNat : Int) == 47 else false) <;> rfl
theorem pathS_eq : smallS ++ ByteArray.mk #[48, 49, 50, 51, 52, 53, 54, 55, 56, 57, 47] = pathS := by
  apply WideShapes.bytes_inj; simp [smallS, pathS]
theorem smallS_size : smallS.size = 26 := rfl
set_option maxHeartbeats 400000 in
theorem rline_any (s : ByteArray) (w : World) (hs : s.size ≤ maxLen) :
    Calls Try.prog 14 #[.string s] w fun e w' => e = .returned (.bool (linB s)) ∧ w' = w := by
  unfold maxLen at hs
  generalize hr : linB s = r
  have HR : Hid (linB s = r) := hr
  clear hr
  go_enter Try.func14, Try.ntmps14
  go_wp2
  go_loop [6] (fun i => ∃ k : Nat, k ≤ s.size ∧ i = .int .i64 k ∧ Hid (∀ j (hj : j < s.size), j < k → lineB (s[j].toNat : Int) = true)) (fun i => s.size - (intOf i).toNat)
  case atStart => exact ⟨0, Nat.zero_le _, rfl, fun j _ h => absurd h (by omega)⟩
  case round =>
    obtain ⟨k, hk, rfl, HA⟩ := hrel
    by_cases hlt : k < s.size
    · have hlt' : (k : Int) < (s.size : Int) := by omega
      by_cases h1 : (s[k].toNat : Int) < 32
      · go_wp2
        go_ret
        refine ⟨ret_bool ?_, rfl⟩
        rw [← HR.out, linB, allB_false k hlt (by unfold lineB; rw [decide_eq_false (by omega)]; rfl)]; simp
      · by_cases h2 : (126 : Int) < (s[k].toNat : Int)
        · have h1' : decide ((s[k].toNat : Int) < 32) = false := by simpa using h1
          go_wp2
          go_ret
          refine ⟨ret_bool ?_, rfl⟩
          rw [← HR.out, linB, allB_false k hlt (by unfold lineB; rw [decide_eq_false (by omega : ¬ (s[k].toNat : Int) ≤ 126)]; simp)]; simp
        · have h1' : decide ((s[k].toNat : Int) < 32) = false := by simpa using h1
          have h2' : decide ((126 : Int) < (s[k].toNat : Int)) = false := by simpa using h2
          have HC : Hid (lineB (s[k].toNat : Int) = true) := by show lineB _ = true; unfold lineB; rw [decide_eq_true (by omega), decide_eq_true (by omega)]; rfl
          go_wp2
          go_round
          case rel => exact ⟨k + 1, by omega, by go_num, fun j hj h => by
            by_cases e : j = k
            · subst e; exact HC.out
            · exact HA.out j hj (by omega)⟩
          case measure => simp [intOf]; omega
    · go_wp2
      go_ret
      refine ⟨ret_bool ?_, rfl⟩
      rw [← HR.out, linB, allB_true (fun j hj => HA.out j hj (by omega)), Bool.and_true]
end Go.Proofs.Ytbpmcabeghbalaa
