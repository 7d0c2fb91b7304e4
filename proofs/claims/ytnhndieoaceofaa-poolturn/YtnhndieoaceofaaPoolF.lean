/- The first of those that wait leaves: slices.Delete at numbers. -/
import Derived.Test.YtnhndieoaceofaaPoolE
namespace Go.Proofs.Ytnhndieoaceofaa
open Go.RowKit

theorem run_clear_int (w : World) (ty : TypeId) (b o c : Nat) (hc : (w.cell? ⟨b, o, none⟩).isSome = true) (hf : w.frozen? ⟨b, o, none⟩ = false) :
    (Builtin.clear_ #[26] ty #[.slice (some ⟨b, o, none⟩) 1 c]).run Try.prog w = .ok (.tuple #[]) (w.setCells b o [.int .i64 0]) := by
  have hst := run_storeCells_cells (P := Try.prog) b o [.int .i64 0] 0 w (by intro j hj; simp at hj; subst hj; simpa using hc) (by intro j hj; simp at hj; subst hj; simpa using hf) (by intro v hv'; simp at hv'; subst hv'; rfl)
  simp only [Nat.add_zero] at hst
  have hzc : (Builtin.zeroCells (Value.int .i64 0).cells 1).toList = [.int .i64 0] := by kernel_rfl
  simp [Builtin.clear_, run_underlying Try.underlying26, hzc, hst]

set_option maxRecDepth 100000 in
set_option maxHeartbeats 1000000 in
theorem deleteI_at (hs : List Int) (b off cap t : Nat) (w : World) (hcell : ∀ j u, (icells hs)[j]? = some u → w.cell? ⟨b, off + j, none⟩ = some u) (hfree : ∀ j, w.frozen? ⟨b, off + j, none⟩ = false) (hcap : hs.length ≤ cap) (hm : cap ≤ maxLen) (ht : t < hs.length) :
    Calls Try.prog 22 #[.slice (some ⟨b, off, none⟩) hs.length cap, .int .i64 t, .int .i64 ((t : Int) + 1)] w fun e w' => e = .returned (.slice (some ⟨b, off, none⟩) (t + (hs.length - (t + 1))) cap) ∧ w' = (w.drew.setCells b (off + t * 1) (icells (hs.drop (t + 1)))).setCells b (off + (t + (hs.length - (t + 1)))) [.int .i64 0] := by
  obtain ⟨news, hnews⟩ : ∃ news, news = icells (hs.drop (t + 1)) := ⟨_, rfl⟩
  have hlen : news.length = (hs.length - (t + 1)) * 1 := by rw [hnews, icells_length, List.length_drop]
  have hget : ∀ j u, news[j]? = some u → w.cell? ⟨b, off + (t + 1) + j, none⟩ = some u := by
    intro j u hu
    rw [Nat.add_assoc]
    refine hcell ((t + 1) + j) u ?_
    rw [← hu, hnews]
    have e : icells hs = icells (hs.take (t + 1)) ++ icells (hs.drop (t + 1)) := by rw [← icells_append, List.take_append_drop]
    have e2 : (icells (hs.take (t + 1))).length = t + 1 := by rw [icells_length, List.length_take, Nat.min_eq_left (by omega), Nat.mul_one]
    rw [e, List.getElem?_append_right (by rw [e2]; omega), e2, Nat.add_sub_cancel_left]
  have hsome : ∀ j, j < hs.length → (w.cell? ⟨b, off + j, none⟩).isSome = true := by
    intro j hj
    have hj' : j < (icells hs).length := by rw [icells_length]; omega
    rw [hcell j _ (List.getElem?_eq_getElem hj')]
    rfl
  obtain ⟨A, hA, hsrc⟩ : ∃ A : Addr, (if cap = t + 1 then some (⟨b, off, none⟩ : Addr) else some ⟨b, off + (t + 1), none⟩) = some A ∧ Hid (∀ j u, news[j]? = some u → w.drew.cell? (A.add j) = some u) := by
    by_cases h : cap = t + 1
    · refine ⟨⟨b, off, none⟩, by simp [h], fun j u hu => ?_⟩
      have h0 : news.length = 0 := by rw [hlen]; omega
      rw [List.length_eq_zero_iff.1 h0] at hu
      simp at hu
    · refine ⟨⟨b, off + (t + 1), none⟩, by simp [h], fun j u hu => ?_⟩
      rw [add_none]
      exact hget j u hu
  have s1 : Hid (news.length = (hs.length - (t + 1)) * 1) := hlen
  have s2 : Hid (∀ u ∈ news, u.oneCell' = true) := by show ∀ u ∈ news, _; rw [hnews]; exact icells_one _
  have s3 : Hid (∀ j, j < news.length → (w.drew.cell? ⟨b, off + t * 1 + j, none⟩).isSome = true ∧ w.drew.frozen? ⟨b, off + t * 1 + j, none⟩ = false) := by
    intro j hj
    rw [hlen] at hj
    rw [Nat.add_assoc]
    exact ⟨hsome (t * 1 + j) (by omega), hfree (t * 1 + j)⟩
  obtain ⟨W1, hW1⟩ : ∃ W1, W1 = w.drew.setCells b (off + t * 1) news := ⟨_, rfl⟩
  have hcl : ∀ ty, (Builtin.clear_ #[26] ty #[.slice (some ⟨b, off + (t + (hs.length - (t + 1))), none⟩) (hs.length - (t + (hs.length - (t + 1)))) (cap - (t + (hs.length - (t + 1))))]).run Try.prog W1 = .ok (.tuple #[]) (W1.setCells b (off + (t + (hs.length - (t + 1)))) [.int .i64 0]) := by
    intro ty
    rw [show hs.length - (t + (hs.length - (t + 1))) = 1 by omega]
    refine run_clear_int W1 ty b _ _ ?_ ?_
    · rw [hW1]
      have h := hsome (t + (hs.length - (t + 1))) (by omega)
      rw [World.cell?_setCells_out b news _ _ _ (fun _ _ => .inr (by show off + t * 1 + news.length ≤ off + (t + (hs.length - (t + 1))); rw [hlen]; omega))]
      exact h
    · rw [hW1, World.frozen?_setCells]
      exact hfree _
  have HW : Hid (W1 = w.drew.setCells b (off + t * 1) news) := hW1
  have HN : Hid (news = icells (hs.drop (t + 1))) := hnews
  have hne : ((t : Int) == (t : Int) + 1) = false := by simp; omega
  obtain ⟨i3, hi3, hz3, hs3, hb3⟩ := info_parts Try.info3
  have tc : t ≤ cap := by omega
  have t1c : t + 1 ≤ cap := by omega
  have t1n : t + 1 ≤ hs.length := by omega
  have ztc : (t : Int) ≤ (cap : Int) := by omega
  have ztl : (t : Int) + 1 ≤ (hs.length : Int) := by omega
  have ztp : (0 : Int) ≤ (t : Int) + 1 := by omega
  have HM : Hid (cap ≤ maxLen) := hm
  unfold maxLen at hm
  clear hW1 hnews hlen hget hsome hcell hfree
  go_enter Try.func22, Try.ntmps22
  go_wp2_with fail
  go_region_law (refine step_append_room rfl (.tmp 22) (.tmp 25) 26 rfl 3 i3 1 Try.underlying26 hi3 hs3 b off t cap (by simp [Act.eval, Act.put]) A (hs.length - (t + 1)) (cap - (t + 1)) news (by simp [Act.eval, Act.put]) s1.out hsrc.out s2.out (by omega) s3.out ?_; rw [← HW.out])
  go_wp2
  go_ret
  exact ⟨rfl, by rw [HW.out, HN.out]⟩

theorem setCells_size (b : Nat) : ∀ (vs : List Value) (o : Nat) (w : World), (w.setCells b o vs).heap.size = w.heap.size
  | [], _, _ => rfl
  | v :: r, o, w => by
    show ((w.setCell ⟨b, o, none⟩ v).setCells b (o + 1) r).heap.size = _
    rw [setCells_size b r]
    simp
/-- The first of a row of one's own leaves it; nothing else is otherwise. -/
theorem deleteI_any (x : Int) (xs : List Int) (g cap base : Nat) (w : World) (h : w.ownsRow base 3 1 (.slice (some ⟨g, 0, none⟩) (x :: xs).length cap) (x :: xs).length (icells (x :: xs))) :
    Calls Try.prog 22 #[.slice (some ⟨g, 0, none⟩) (x :: xs).length cap, .int .i64 0, .int .i64 1] w fun e w' => e = .returned (.slice (some ⟨g, 0, none⟩) xs.length cap) ∧ IntsAt w' (some ⟨g, 0, none⟩) xs ∧ w'.heap.size = w.heap.size ∧ (∀ k j, k ≠ g → w'.cell? ⟨k, j, none⟩ = w.cell? ⟨k, j, none⟩) ∧ (∀ a, w'.frozen? a = w.frozen? a) ∧ Below g w w' := by
  have hc0 := h.cells (g := g) rfl
  have hcell : ∀ j u, (icells (x :: xs))[j]? = some u → w.cell? ⟨g, 0 + j, none⟩ = some u := fun j u hu => by rw [← add_none]; exact hc0 j u hu
  have hg := (h.lt g rfl).2
  have hcap := cap_of_owns h
  refine (deleteI_at (x :: xs) g 0 cap 0 w hcell (fun j => h.frozenAt (0 + j)) hcap.2.1 hcap.2.2 (by simp)).mono ?_
  rintro e w' ⟨rfl, rfl⟩
  have bl : Below g w ((w.drew.setCells g (0 + 0 * 1) (icells ((x :: xs).drop (0 + 1)))).setCells g (0 + (0 + ((x :: xs).length - (0 + 1)))) [.int .i64 0]) := below_setCells (Nat.le_refl _) _ _ _ _ (below_setCells (Nat.le_refl _) _ _ _ _ (Below.refl _ _).drew)
  have hl2 : (icells ((x :: xs).drop (0 + 1))).length = xs.length := by simp [icells]
  refine ⟨by simp, ⟨fun i hi => ⟨g, 0, rfl, Nat.lt_of_lt_of_le hg bl.size, ?_⟩, ?_⟩, ?_, ?_, ?_, bl⟩
  · rw [World.cell?_setCells_out g _ _ _ _ (fun _ _ => .inl (by show 0 + i < 0 + (0 + ((x :: xs).length - (0 + 1))); simp; omega))]
    have hin := World.cell?_setCells_in g (icells ((x :: xs).drop (0 + 1))) (0 + 0 * 1) w.drew (fun i hi => by
      have hi' : i < (icells (x :: xs)).length := by rw [hl2] at hi; simp [icells]; omega
      show (w.cell? _).isSome = true
      rw [show 0 + 0 * 1 + i = 0 + i by omega, hcell i _ (List.getElem?_eq_getElem hi')]
      rfl) i (by rw [hl2]; exact hi)
    rw [show 0 + 0 * 1 + i = 0 + i by omega] at hin
    rw [hin]
    simp [icells]
  · have := hcap.2.1
    have := hcap.2.2
    simp at *
    omega
  · rw [setCells_size, setCells_size]
    rfl
  · intro k j hk
    rw [World.cell?_setCells_out g _ _ _ _ (fun e _ => absurd e hk), World.cell?_setCells_out g _ _ _ _ (fun e _ => absurd e hk)]
    rfl
  · intro a
    rw [World.frozen?_setCells, World.frozen?_setCells]
    rfl
end Go.Proofs.Ytnhndieoaceofaa
