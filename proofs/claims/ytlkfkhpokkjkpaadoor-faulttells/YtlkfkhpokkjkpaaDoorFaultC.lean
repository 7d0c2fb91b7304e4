/- Walks of the document's own answer: a kind's name and status, by maps that the call makes. -/
import Derived.Test.YtlkfkhpokkjkpaaDoorFaultB
namespace Go.Proofs.YtlkfkhpokkjkpaaDoor
open Go.RowKit Go.Maps

theorem ilaw : Keyed Tryd.prog 3 := int_keyed Tryd.underlying3
theorem blaw : Keyed Tryd.prog 4 := bool_keyed Tryd.underlying4
theorem zero9 (w : World) : (zeroValue 9).run Tryd.prog w = .ok (.string ⟨#[]⟩) w := by kernel_rfl
theorem zero3 (w : World) : (zeroValue 3).run Tryd.prog w = .ok (.int .i64 0) w := by kernel_rfl

theorem put_is {w : World} {b n : Nat} {D : DataW Unit} (h : w.ownsMap Tryd.prog 3 (plainElem Tryd.prog 9) b n D) (hn : n < 100) (a : Int) (ha : (Lit.int .i64 a).wf = true) (s : ByteArray) (hs : s.size ≤ 100) :
    ∃ w', (Instr.mapUpdate 85 (.map (some b)) (.int .i64 a) (.string s)).run Tryd.prog w = .ok () w' ∧ w'.ownsMap Tryd.prog 3 (plainElem Tryd.prog 9) b (n + 1) (D.put (.int .i64 a) (.lit (.string s.data.toList))) ∧ w.grownBy w' (some b) :=
  h.update ilaw Tryd.underlying85 (by unfold maxLen; omega) (keyOf_int_mk Tryd.underlying3 ha) (plainElem_string Tryd.underlying9 (by unfold maxLen; omega))
theorem put_bs {w : World} {b n : Nat} {D : DataW Unit} (h : w.ownsMap Tryd.prog 4 (plainElem Tryd.prog 9) b n D) (hn : n < 100) (a : Bool) (s : ByteArray) (hs : s.size ≤ 100) :
    ∃ w', (Instr.mapUpdate 86 (.map (some b)) (.bool a) (.string s)).run Tryd.prog w = .ok () w' ∧ w'.ownsMap Tryd.prog 4 (plainElem Tryd.prog 9) b (n + 1) (D.put (.bool a) (.lit (.string s.data.toList))) ∧ w.grownBy w' (some b) :=
  h.update blaw Tryd.underlying86 (by unfold maxLen; omega) (keyOf_bool_mk Tryd.underlying4 a) (plainElem_string Tryd.underlying9 (by unfold maxLen; omega))
theorem look_is {w : World} {b n : Nat} {D : DataW Unit} (h : w.ownsMap Tryd.prog 3 (plainElem Tryd.prog 9) b n D) (a : Int) (ha : (Lit.int .i64 a).wf = true) :
    ∃ s : ByteArray, (Instr.lookup 85 (.map (some b)) (.int .i64 a) false).run Tryd.prog w = .ok (.string s) w ∧ D.atKey (.int .i64 a) (.lit (.string [])) = .lit (.string s.data.toList) := by
  obtain ⟨v, ps, hrun, hv⟩ := h.lookup ilaw Tryd.underlying85 (zero9 w) (plainElem_string Tryd.underlying9 (s := ⟨#[]⟩) (by decide)) (keyOf_int_mk Tryd.underlying3 ha)
  obtain ⟨c, rfl, hc, _⟩ := plainElem_string_inv Tryd.underlying9 hv
  simp only [Prod.mk.injEq] at hc
  exact ⟨c, hrun, hc.1⟩
theorem look_bs {w : World} {b n : Nat} {D : DataW Unit} (h : w.ownsMap Tryd.prog 4 (plainElem Tryd.prog 9) b n D) (a : Bool) :
    ∃ s : ByteArray, (Instr.lookup 86 (.map (some b)) (.bool a) false).run Tryd.prog w = .ok (.string s) w ∧ D.atKey (.bool a) (.lit (.string [])) = .lit (.string s.data.toList) := by
  obtain ⟨v, ps, hrun, hv⟩ := h.lookup blaw Tryd.underlying86 (zero9 w) (plainElem_string Tryd.underlying9 (s := ⟨#[]⟩) (by decide)) (keyOf_bool_mk Tryd.underlying4 a)
  obtain ⟨c, rfl, hc, _⟩ := plainElem_string_inv Tryd.underlying9 hv
  simp only [Prod.mk.injEq] at hc
  exact ⟨c, hrun, hc.1⟩

def kindL (n : Int) : List UInt8 :=
  if n = 1 then [102, 97, 105, 108] else if n = 2 then [112, 97, 110, 105, 99] else if n = 3 then [102, 97, 116, 97, 108] else if n = 4 then [117, 112, 115, 116, 114, 101, 97, 109]
  else if n = 5 then [111, 118, 101, 114, 108, 111, 97, 100] else if n = 6 then [110, 111, 32, 117, 112, 115, 116, 114, 101, 97, 109] else if n = 7 then [114, 101, 108, 101, 97, 115, 101] else []
def kindD : DataW Unit := (((((((DataW.map []).put (.int .i64 1) (.lit (.string [102, 97, 105, 108]))).put (.int .i64 2) (.lit (.string [112, 97, 110, 105, 99]))).put (.int .i64 3) (.lit (.string [102, 97, 116, 97, 108]))).put (.int .i64 4) (.lit (.string [117, 112, 115, 116, 114, 101, 97, 109]))).put (.int .i64 5) (.lit (.string [111, 118, 101, 114, 108, 111, 97, 100]))).put (.int .i64 6) (.lit (.string [110, 111, 32, 117, 112, 115, 116, 114, 101, 97, 109]))).put (.int .i64 7) (.lit (.string [114, 101, 108, 101, 97, 115, 101]))
theorem kindD_at (n : Int) : kindD.atKey (.int .i64 n) (.lit (.string [])) = .lit (.string (kindL n)) := by
  rcases kind_cases n with rfl | rfl | rfl | rfl | rfl | rfl | rfl | ⟨h1, h2, h3, h4, h5, h6, h7⟩
  case inr.inr.inr.inr.inr.inr.inr =>
    have e : kindL n = [] := by simp [kindL, h1, h2, h3, h4, h5, h6, h7]
    rw [e]
    unfold kindD
    rw [atKey_put_other (by simpa using h7), atKey_put_other (by simpa using h6), atKey_put_other (by simpa using h5), atKey_put_other (by simpa using h4), atKey_put_other (by simpa using h3), atKey_put_other (by simpa using h2), atKey_put_other (by simpa using h1)]
    rfl
  all_goals rfl
def markD : DataW Unit := ((DataW.map []).put (.bool true) (.lit (.string [63]))).put (.bool false) (.lit (.string []))
theorem markD_at (c : Bool) : markD.atKey (.bool c) (.lit (.string [])) = .lit (.string (if c then [63] else [])) := by cases c <;> rfl

theorem kindS_join {n : Int} {s1 s2 : ByteArray} (c : Bool) (hc : c = (decide (n < 1) || decide (7 < n))) (h1 : kindD.atKey (.int .i64 n) (.lit (.string [])) = .lit (.string s1.data.toList)) (h2 : markD.atKey (.bool c) (.lit (.string [])) = .lit (.string s2.data.toList)) : s1 ++ s2 = kindS n := by
  rw [kindD_at] at h1
  rw [markD_at, hc] at h2
  injection h1 with h1
  injection h1 with h1
  injection h2 with h2
  injection h2 with h2
  have e1 : s1 = ⟨(kindL n).toArray⟩ := WideShapes.bytes_inj (by simpa using h1.symm)
  have e2 : s2 = ⟨(if (decide (n < 1) || decide (7 < n)) then [63] else []).toArray⟩ := WideShapes.bytes_inj (by simpa using h2.symm)
  rw [e1, e2]
  rcases kind_cases n with rfl | rfl | rfl | rfl | rfl | rfl | rfl | ⟨g1, g2, g3, g4, g5, g6, g7⟩
  case inr.inr.inr.inr.inr.inr.inr =>
    have e : kindL n = [] := by simp [kindL, g1, g2, g3, g4, g5, g6, g7]
    have e' : kindS n = ⟨#[63]⟩ := by simp [kindS, g1, g2, g3, g4, g5, g6, g7]
    have e3 : (decide (n < 1) || decide (7 < n)) = true := by simp; omega
    rw [e, e', e3]
    rfl
  all_goals rfl

theorem kindS_size (n : Int) : (kindS n).size ≤ 11 := by
  rcases kind_cases n with rfl | rfl | rfl | rfl | rfl | rfl | rfl | ⟨g1, g2, g3, g4, g5, g6, g7⟩
  case inr.inr.inr.inr.inr.inr.inr =>
    have e' : kindS n = ⟨#[63]⟩ := by simp [kindS, g1, g2, g3, g4, g5, g6, g7]
    rw [e']
    decide
  all_goals decide

set_option maxRecDepth 100000 in
set_option maxHeartbeats 1000000 in
theorem rkind_any (n : Int) (hn : (Lit.int .i64 n).wf = true) (w : World) : Calls Tryd.prog 55 #[.int .i64 n] w fun e w' => e = .returned (.string (kindS n)) ∧ Below w.heap.size w w' := by
  have hmm := @run_makeMap Tryd.prog
  obtain ⟨w1, r1, o1, g1⟩ := put_is (World.ownsMap_made (H := Unit) w Tryd.prog 3 (plainElem Tryd.prog 9)) (by omega) 1 (by decide) ⟨#[102, 97, 105, 108]⟩ (by decide)
  obtain ⟨w2, r2, o2, g2⟩ := put_is o1 (by omega) 2 (by decide) ⟨#[112, 97, 110, 105, 99]⟩ (by decide)
  obtain ⟨w3, r3, o3, g3⟩ := put_is o2 (by omega) 3 (by decide) ⟨#[102, 97, 116, 97, 108]⟩ (by decide)
  obtain ⟨w4, r4, o4, g4⟩ := put_is o3 (by omega) 4 (by decide) ⟨#[117, 112, 115, 116, 114, 101, 97, 109]⟩ (by decide)
  obtain ⟨w5, r5, o5, g5⟩ := put_is o4 (by omega) 5 (by decide) ⟨#[111, 118, 101, 114, 108, 111, 97, 100]⟩ (by decide)
  obtain ⟨w6, r6, o6, g6⟩ := put_is o5 (by omega) 6 (by decide) ⟨#[110, 111, 32, 117, 112, 115, 116, 114, 101, 97, 109]⟩ (by decide)
  obtain ⟨w7, r7, o7, g7⟩ := put_is o6 (by omega) 7 (by decide) ⟨#[114, 101, 108, 101, 97, 115, 101]⟩ (by decide)
  obtain ⟨s1, l1, a1⟩ := look_is o7 n hn
  obtain ⟨w8, r8, o8, g8⟩ := put_bs (World.ownsMap_made (H := Unit) w7 Tryd.prog 4 (plainElem Tryd.prog 9)) (by omega) true ⟨#[63]⟩ (by decide)
  obtain ⟨w9, r9, o9, g9⟩ := put_bs o8 (by omega) false ⟨#[]⟩ (by decide)
  obtain ⟨s2, l2, a2⟩ := look_bs o9 (decide (n < 1) || decide (7 < n))
  have HS : Hid (s1 ++ s2 = kindS n) := kindS_join _ rfl a1 a2
  have hz : s1.size + s2.size ≤ 11 := by
    have := kindS_size n
    rw [← HS.out, ByteArray.size_append] at this
    exact this
  have b0 : Below w.heap.size w (w.alloc (.map #[] 0)) := (Below.refl _ _).alloc (Nat.le_refl _) _
  have z0 : w.heap.size ≤ (w.alloc (.map #[] 0)).heap.size := b0.size
  have b1 := b0.grown g1 z0 (fun k e => by cases e; exact Nat.le_refl _)
  have b2 := b1.grown g2 b1.size (fun k e => by cases e; exact Nat.le_refl _)
  have b3 := b2.grown g3 b2.size (fun k e => by cases e; exact Nat.le_refl _)
  have b4 := b3.grown g4 b3.size (fun k e => by cases e; exact Nat.le_refl _)
  have b5 := b4.grown g5 b4.size (fun k e => by cases e; exact Nat.le_refl _)
  have b6 := b5.grown g6 b5.size (fun k e => by cases e; exact Nat.le_refl _)
  have b7 := b6.grown g7 b6.size (fun k e => by cases e; exact Nat.le_refl _)
  have b7' := b7.alloc b7.size (.map #[] 0)
  have b8 := b7'.grown g8 b7'.size (fun k e => by cases e; exact b7.size)
  have b9 := b8.grown g9 b8.size (fun k e => by cases e; exact b7.size)
  have HB : Hid (Below w.heap.size w w9) := b9
  clear b0 z0 b1 b2 b3 b4 b5 b6 b7 b7' b8 b9 g1 g2 g3 g4 g5 g6 g7 g8 g9 o1 o2 o3 o4 o5 o6 o7 o8 o9 a1 a2
  cases h1 : decide (n < 1) with
  | true =>
    rw [h1] at l2
    simp only [Bool.true_or] at l2
    go_enter Tryd.func55, Tryd.ntmps55
    go_wp2
    go_ret
    exact ⟨by rw [← HS.out]; rfl, HB.out⟩
  | false =>
    rw [h1] at l2
    simp only [Bool.false_or] at l2
    go_enter Tryd.func55, Tryd.ntmps55
    go_wp2
    go_ret
    exact ⟨by rw [← HS.out]; rfl, HB.out⟩

theorem put_ii {w : World} {b n : Nat} {D : DataW Unit} (h : w.ownsMap Tryd.prog 3 (plainElem Tryd.prog 3) b n D) (hn : n < 100) (a : Int) (ha : (Lit.int .i64 a).wf = true) (c : Int) (hc : (Lit.int .i64 c).wf = true) :
    ∃ w', (Instr.mapUpdate 75 (.map (some b)) (.int .i64 a) (.int .i64 c)).run Tryd.prog w = .ok () w' ∧ w'.ownsMap Tryd.prog 3 (plainElem Tryd.prog 3) b (n + 1) (D.put (.int .i64 a) (.lit (.int .i64 c))) ∧ w.grownBy w' (some b) :=
  h.update ilaw Tryd.underlying75 (by unfold maxLen; omega) (keyOf_int_mk Tryd.underlying3 ha) (plainElem_int Tryd.underlying3 hc)
def statD : DataW Unit := ((((DataW.map []).put (.int .i64 1) (.lit (.int .i64 400))).put (.int .i64 4) (.lit (.int .i64 502))).put (.int .i64 5) (.lit (.int .i64 503))).put (.int .i64 6) (.lit (.int .i64 504))
theorem statD_case (k : Int) : (k = 1 ∨ k = 4 ∨ k = 5 ∨ k = 6) ∨ (k ≠ 1 ∧ k ≠ 4 ∧ k ≠ 5 ∧ k ≠ 6) := by omega
theorem statD_has (k : Int) : Maps.has statD (.int .i64 k) = (decide (k = 1) || decide (k = 4) || decide (k = 5) || decide (k = 6)) := by
  rcases statD_case k with (rfl | rfl | rfl | rfl) | ⟨h1, h4, h5, h6⟩
  case inr =>
    unfold statD
    rw [has_put_other (by simpa using h6), has_put_other (by simpa using h5), has_put_other (by simpa using h4), has_put_other (by simpa using h1)]
    simp [h1, h4, h5, h6]
    rfl
  all_goals rfl
theorem statD_at (k : Int) (h : Maps.has statD (.int .i64 k) = true) : statD.atKey (.int .i64 k) (.lit (.int .i64 0)) = .lit (.int .i64 (statusI k)) := by
  rw [statD_has] at h
  rcases statD_case k with (rfl | rfl | rfl | rfl) | ⟨h1, h4, h5, h6⟩
  case inr => simp [h1, h4, h5, h6] at h
  all_goals rfl
theorem statD_not (k : Int) (h : Maps.has statD (.int .i64 k) = false) : statusI k = 500 := by
  rw [statD_has] at h
  simp at h
  obtain ⟨⟨⟨h1, h4⟩, h5⟩, h6⟩ := h
  simp [statusI, h1, h4, h5, h6]

set_option maxRecDepth 100000 in
set_option maxHeartbeats 1000000 in
theorem rstatus_any (k fi ca inn : Int) (t : ByteArray) (hk : (Lit.int .i64 k).wf = true) (w : World) : Calls Tryd.prog 34 #[fltV k fi ca inn t] w fun e w' => e = .returned (.int .i64 (statusI k)) ∧ Below w.heap.size w w' := by
  unfold fltV
  have hmm := @run_makeMap Tryd.prog
  generalize hw0 : w.alloc (.cells #[.int .i64 k, .int .i64 fi, .int .i64 ca, .string t, .int .i64 inn] 44) = w0
  have hbx : ∀ w', Below w0.heap.size w0 w' → w'.cell? ⟨w.heap.size, 0, none⟩ = some (.int .i64 k) := fun w' hb => by
    rw [hb.cell (p := ⟨w.heap.size, 0, none⟩) (by rw [← hw0]; simp), ← hw0]
    simp
  obtain ⟨w1, r1, o1, g1⟩ := put_ii (World.ownsMap_made (H := Unit) w0 Tryd.prog 3 (plainElem Tryd.prog 3)) (by omega) 1 (by decide) 400 (by decide)
  obtain ⟨w2, r2, o2, g2⟩ := put_ii o1 (by omega) 4 (by decide) 502 (by decide)
  obtain ⟨w3, r3, o3, g3⟩ := put_ii o2 (by omega) 5 (by decide) 503 (by decide)
  obtain ⟨w4, r4, o4, g4⟩ := put_ii o3 (by omega) 6 (by decide) 504 (by decide)
  obtain ⟨v, ps, l1, hv⟩ := o4.look_ok ilaw Tryd.underlying75 (zero3 w4) (plainElem_int Tryd.underlying3 (by decide)) (keyOf_int_mk Tryd.underlying3 hk)
  obtain ⟨c, rfl, hc, _⟩ := plainElem_int_inv Tryd.underlying3 hv
  simp only [Prod.mk.injEq] at hc
  have hat : statD.atKey (.int .i64 k) (.lit (.int .i64 0)) = .lit (.int .i64 c) := hc.1
  have l1' : (Instr.lookup 75 (.map (some w0.heap.size)) (.int .i64 k) true).run Tryd.prog w4 = .ok (.tuple #[.int .i64 c, .bool (Maps.has statD (.int .i64 k))]) w4 := l1
  have b0 : Below w0.heap.size w0 (w0.alloc (.map #[] 0)) := (Below.refl _ _).alloc (Nat.le_refl _) _
  have b1 := b0.grown g1 b0.size (fun k e => by cases e; exact Nat.le_refl _)
  have b2 := b1.grown g2 b1.size (fun k e => by cases e; exact Nat.le_refl _)
  have b3 := b2.grown g3 b2.size (fun k e => by cases e; exact Nat.le_refl _)
  have b4 := b3.grown g4 b3.size (fun k e => by cases e; exact Nat.le_refl _)
  have hbx4 := hbx w4 b4
  have HB : Hid (Below w.heap.size w w4) := ((Below.refl _ _).alloc (Nat.le_refl _) _).trans (hw0 ▸ b4.mono (by rw [← hw0]; simp))
  clear l1 hc hv b0 b1 b2 b3 b4 g1 g2 g3 g4 o1 o2 o3 o4 hbx
  cases hh : Maps.has statD (.int .i64 k) with
  | false =>
    have HE : Hid (statusI k = 500) := statD_not k hh
    rw [hh] at l1'
    clear hat hh
    subst hw0
    simp only [World.size_alloc] at r1 r2 r3 r4 l1'
    go_enter Tryd.func34, Tryd.ntmps34
    go_wp2
    go_ret
    exact ⟨by rw [HE.out]; rfl, HB.out⟩
  | true =>
    have HE : Hid (statusI k = c) := by
      have := statD_at k hh
      rw [hat] at this
      injection this with this
      injection this with _ this
      exact this.symm
    rw [hh] at l1'
    clear hat hh
    subst hw0
    simp only [World.size_alloc] at r1 r2 r3 r4 l1'
    go_enter Tryd.func34, Tryd.ntmps34
    go_wp2
    go_ret
    exact ⟨by rw [HE.out]; rfl, HB.out⟩
end Go.Proofs.YtlkfkhpokkjkpaaDoor
