/- Walks of the document's own cutting of a text, and what it says no with. -/
import Derived.Test.YtlkfkhpokkjkpaaDoorMsgT
namespace Go.Proofs.YtlkfkhpokkjkpaaDoor
open Go.RowKit

theorem cutL_not (c : UInt8) : ∀ l : List UInt8, c ∉ l → cutL c l = (l, [], false)
  | [], _ => rfl
  | x :: t, h => by
    have hx : ¬ x = c := fun e => h (by simp [e])
    have ht : c ∉ t := fun e => h (by simp [e])
    simp [cutL, hx, cutL_not c t ht]
theorem cutL_here (c : UInt8) (l : List UInt8) (k : Nat) (hk : k < l.length) (hc : l[k] = c) (hn : c ∉ l.take k) : cutL c l = (l.take k, l.drop (k + 1), true) := by
  have e : l = l.take k ++ c :: l.drop (k + 1) := by rw [← hc, ← List.drop_eq_getElem_cons hk, List.take_append_drop]
  conv => lhs; rw [e]
  rw [cutL_at c _ _ hn]

set_option maxHeartbeats 1000000 in
theorem upTo_any (s : ByteArray) (c : UInt8) (cc : Int) (hcc : cc = (c.toNat : Int)) (w : World) (hs : s.size ≤ 281474976710656) :
    Calls Tryd.prog 51 #[.string s, .int .u8 cc] w fun e w' => e = .returned (.tuple #[.string (B (cutL c s.data.toList).1), .string (B (cutL c s.data.toList).2.1), .bool (cutL c s.data.toList).2.2]) ∧ ∃ n, w' = w.drewN n := by
  obtain ⟨R, hR⟩ : ∃ R, cutL c s.data.toList = R := ⟨_, rfl⟩
  rw [hR]
  have HR : Hid (cutL c s.data.toList = R) := hR
  clear hR
  have HC : Hid (cc = (c.toNat : Int)) := hcc
  clear hcc
  go_enter Tryd.func51, Tryd.ntmps51
  go_wp2
  go_loopw [10] (fun i wr => ∃ k : Nat, k ≤ s.size ∧ i = .int .i64 k ∧ wr = w ∧ Hid (c ∉ s.data.toList.take k)) (fun i _ => s.size - (intOf i).toNat)
  case atStart => exact ⟨0, by omega, rfl, rfl, by show _ ∉ _; simp⟩
  case round =>
    obtain ⟨k, hk, rfl, rfl, HN⟩ := hrel
    by_cases hlt : k < s.size
    · have hlt' : (k : Int) < (s.size : Int) := by omega
      have hl : k < s.data.toList.length := by simpa using hlt
      have hkn : (0 : Int) ≤ (k : Int) := by omega
      by_cases he : s[k] = c
      · have q : (((s[k].toNat : Int)) == cc) = true := by rw [HC.out, byte_beq]; simp [he]
        have HX : Hid (R = (s.data.toList.take k, s.data.toList.drop (k + 1), true)) := by
          show R = _
          rw [← HR.out]; exact cutL_here c _ k hl he HN.out
        clear he
        go_wp2
        go_quiet (fail)
        go_wp2
        go_ret3
        refine ⟨?_, nq, rfl⟩
        have e1 : s.extract 0 k = B (s.data.toList.take k) := by rw [extract_B]; simp
        have e2 : s.extract (k + 1) s.size = B (s.data.toList.drop (k + 1)) := by
          rw [extract_B, List.take_of_length_le]
          simp
        rw [HX.out, ← e1, ← e2]
        rfl
      · have q : (((s[k].toNat : Int)) == cc) = false := by rw [HC.out, byte_beq]; simpa using fun e => he e.symm
        have HE : Hid (¬ s[k] = c) := he
        clear he
        go_wp2
        go_roundw
        case rel => exact ⟨k + 1, by omega, by go_num, trivial, by
          show _ ∉ _
          rw [List.take_succ_eq_append_getElem hl]
          intro hm
          rcases List.mem_append.1 hm with hm | hm
          · exact HN.out hm
          · simp only [List.mem_singleton] at hm
            exact HE.out hm.symm⟩
        case measure => simp [intOf]; omega
    · have HX : Hid (R = (s.data.toList, [], false)) := by
        show R = _
        have h2 := HN.out
        rw [List.take_of_length_le (by simp; omega)] at h2
        rw [← HR.out, cutL_not c _ h2]
      go_wp2
      go_ret3
      refine ⟨?_, 0, rfl⟩
      rw [HX.out, B_of]
      rfl

theorem no_any (n : Int) (w : World) :
    Calls Tryd.prog 50 #[.int .i64 n] w fun e w' => e = .returned (.tuple #[msgV 0 [], .int .i64 n]) ∧ Below w.heap.size w w' := by
  go_enter Tryd.func50, Tryd.ntmps50
  go_wp2
  exact bodyPost_ret (v := .tuple #[msgV 0 [], .int .i64 n]) (by simp [results, Tryd.results50, go_sem, msgV, B]) rfl ⟨rfl, by repeat (first | refine Below.setCell ?_ (by simp) _ | exact (Below.refl _ _).alloc (Nat.le_refl _) _)⟩
end Go.Proofs.YtlkfkhpokkjkpaaDoor
