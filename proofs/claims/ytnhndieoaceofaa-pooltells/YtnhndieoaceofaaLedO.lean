/- One hold taken out of the middle of a row of the call's own: slices.Delete at holds. -/
import Derived.Test.YtnhndieoaceofaaLedK
import Derived.Deep.RegionLaw
import Derived.Deep.DeepMust
namespace Go.Proofs.Ytnhndieoaceofaa
open Go.RowKit

theorem below_setCells {B b : Nat} (hb : B ≤ b) : ∀ (vs : List Value) (o : Nat) (a w : World), Below B a w → Below B a (w.setCells b o vs)
  | [], _, _, _, h => h
  | v :: r, o, a, _, h => below_setCells hb r (o + 1) a _ (h.setCell (p := ⟨b, o, none⟩) hb v)

theorem run_clear_one (w : World) (ty : TypeId) (b o c : Nat) (hc : ∀ j, j < 3 → (w.cell? ⟨b, o + j, none⟩).isSome = true) (hf : ∀ j, j < 3 → w.frozen? ⟨b, o + j, none⟩ = false) :
    (Builtin.clear_ #[22] ty #[.slice (some ⟨b, o, none⟩) 1 c]).run Try.prog w = .ok (.tuple #[]) (w.setCells b o [.int .i64 0, .int .i64 0, .int .i64 0]) := by
  have hst := run_storeCells_cells (P := Try.prog) b o [.int .i64 0, .int .i64 0, .int .i64 0] 0 w (by simpa using hc) (by simpa using hf) (by intro v hv'; simp at hv'; subst hv'; rfl)
  simp only [Nat.add_zero] at hst
  have hzc : (Builtin.zeroCells (Value.agg #[.int .i64 0, .int .i64 0, .int .i64 0]).cells 1).toList = [.int .i64 0, .int .i64 0, .int .i64 0] := by kernel_rfl
  simp [Builtin.clear_, run_underlying Try.underlying22, hzc, hst]

set_option maxRecDepth 100000 in
set_option maxHeartbeats 2000000 in
theorem delete_at (hs : List Ho) (b off cap t : Nat) (w : World) (hcell : ∀ j u, (hocells hs)[j]? = some u → w.cell? ⟨b, off + j, none⟩ = some u) (hfree : ∀ j, w.frozen? ⟨b, off + j, none⟩ = false) (hcap : hs.length ≤ cap) (hm : cap ≤ maxLen) (ht : t < hs.length) :
    Calls Try.prog 31 #[.slice (some ⟨b, off, none⟩) hs.length cap, .int .i64 t, .int .i64 ((t : Int) + 1)] w fun e w' => e = .returned (.slice (some ⟨b, off, none⟩) (t + (hs.length - (t + 1))) cap) ∧ w' = (w.drew.setCells b (off + t * 3) (hocells (hs.drop (t + 1)))).setCells b (off + (t + (hs.length - (t + 1))) * 3) [.int .i64 0, .int .i64 0, .int .i64 0] := by
  obtain ⟨news, hnews⟩ : ∃ news, news = hocells (hs.drop (t + 1)) := ⟨_, rfl⟩
  have hlen : news.length = (hs.length - (t + 1)) * 3 := by rw [hnews, hocells_length, List.length_drop]
  have hget : ∀ j u, news[j]? = some u → w.cell? ⟨b, off + (t + 1) * 3 + j, none⟩ = some u := by
    intro j u hu
    rw [Nat.add_assoc]
    refine hcell ((t + 1) * 3 + j) u ?_
    rw [← hu, hnews]
    have e : hocells hs = hocells (hs.take (t + 1)) ++ hocells (hs.drop (t + 1)) := by rw [← hocells_append, List.take_append_drop]
    have e2 : (hocells (hs.take (t + 1))).length = (t + 1) * 3 := by rw [hocells_length, List.length_take, Nat.min_eq_left (by omega)]
    rw [e, List.getElem?_append_right (by rw [e2]; omega), e2, Nat.add_sub_cancel_left]
  have hsome : ∀ j, j < hs.length * 3 → (w.cell? ⟨b, off + j, none⟩).isSome = true := by
    intro j hj
    have hj' : j < (hocells hs).length := by rw [hocells_length]; exact hj
    rw [hcell j _ (List.getElem?_eq_getElem hj')]
    rfl
  obtain ⟨A, hA, hsrc⟩ : ∃ A : Addr, (if cap = t + 1 then some (⟨b, off, none⟩ : Addr) else some ⟨b, off + (t + 1) * 3, none⟩) = some A ∧ Hid (∀ j u, news[j]? = some u → w.drew.cell? (A.add j) = some u) := by
    by_cases h : cap = t + 1
    · refine ⟨⟨b, off, none⟩, by simp [h], fun j u hu => ?_⟩
      have h0 : news.length = 0 := by rw [hlen]; omega
      rw [List.length_eq_zero_iff.1 h0] at hu
      simp at hu
    · refine ⟨⟨b, off + (t + 1) * 3, none⟩, by simp [h], fun j u hu => ?_⟩
      rw [add_none]
      exact hget j u hu
  have s1 : Hid (news.length = (hs.length - (t + 1)) * 3) := hlen
  have s2 : Hid (∀ u ∈ news, u.oneCell' = true) := by show ∀ u ∈ news, _; rw [hnews]; exact hocells_one _
  have s3 : Hid (∀ j, j < news.length → (w.drew.cell? ⟨b, off + t * 3 + j, none⟩).isSome = true ∧ w.drew.frozen? ⟨b, off + t * 3 + j, none⟩ = false) := by
    intro j hj
    rw [hlen] at hj
    rw [Nat.add_assoc]
    exact ⟨hsome (t * 3 + j) (by omega), hfree (t * 3 + j)⟩
  obtain ⟨W1, hW1⟩ : ∃ W1, W1 = w.drew.setCells b (off + t * 3) news := ⟨_, rfl⟩
  have hcl : ∀ ty, (Builtin.clear_ #[22] ty #[.slice (some ⟨b, off + (t + (hs.length - (t + 1))) * 3, none⟩) (hs.length - (t + (hs.length - (t + 1)))) (cap - (t + (hs.length - (t + 1))))]).run Try.prog W1 = .ok (.tuple #[]) (W1.setCells b (off + (t + (hs.length - (t + 1))) * 3) [.int .i64 0, .int .i64 0, .int .i64 0]) := by
    intro ty
    rw [show hs.length - (t + (hs.length - (t + 1))) = 1 by omega]
    refine run_clear_one W1 ty b _ _ (fun j hj => ?_) (fun j hj => ?_)
    · rw [hW1]
      have h := hsome ((t + (hs.length - (t + 1))) * 3 + j) (by omega)
      rw [← Nat.add_assoc] at h
      by_cases hin : (t + (hs.length - (t + 1))) * 3 + j < t * 3 + news.length
      · exfalso; rw [hlen] at hin; omega
      · rw [World.cell?_setCells_out b news _ _ _ (fun _ _ => .inr (by show off + t * 3 + news.length ≤ off + (t + (hs.length - (t + 1))) * 3 + j; omega))]
        exact h
    · rw [hW1, World.frozen?_setCells, Nat.add_assoc]
      exact hfree _
  have HW : Hid (W1 = w.drew.setCells b (off + t * 3) news) := hW1
  have HN : Hid (news = hocells (hs.drop (t + 1))) := hnews
  have hne : ((t : Int) == (t : Int) + 1) = false := by simp; omega
  obtain ⟨i27, hi27, hz27, hs27, hb27⟩ := info_parts Try.info27
  have tc : t ≤ cap := by omega
  have t1c : t + 1 ≤ cap := by omega
  have t1n : t + 1 ≤ hs.length := by omega
  have ztc : (t : Int) ≤ (cap : Int) := by omega
  have ztl : (t : Int) + 1 ≤ (hs.length : Int) := by omega
  have ztp : (0 : Int) ≤ (t : Int) + 1 := by omega
  have HM : Hid (cap ≤ maxLen) := hm
  unfold maxLen at hm
  clear hW1 hnews hlen hget hsome hcell hfree
  go_enter Try.func31, Try.ntmps31
  go_wp2_with fail
  go_region_law (refine step_append_room rfl (.tmp 22) (.tmp 25) 22 rfl 52 i27 3 Try.underlying22 hi27 hs27 b off t cap (by simp [Act.eval, Act.put]) A (hs.length - (t + 1)) (cap - (t + 1)) news (by simp [Act.eval, Act.put]) s1.out hsrc.out s2.out (by omega) s3.out ?_; rw [← HW.out])
  go_wp2
  go_ret
  exact ⟨rfl, by rw [HW.out, HN.out]⟩
end Go.Proofs.Ytnhndieoaceofaa
