/- The law FlatTells walked. -/
import Derived.Test.YtbpmcabeghbalaaFlE
import Derived.Test.YtbpmcabeghbalaaCapG
import Derived.Test.YtbpmcabeghbalaaEnE
namespace Go.Proofs.Ytbpmcabeghbalaa
open Go.RowKit
set_option maxRecDepth 100000

theorem cell_on {w w' : World} {b j : Nat} {v : Value} (h : w'.heap[b]? = w.heap[b]?) (hc : w.cell? ⟨b, j, none⟩ = some v) : w'.cell? ⟨b, j, none⟩ = some v := by rw [World.cell?_of_block (w := w) h]; exact hc
theorem RowsAt.on {α : Type} {c : α → List Value} {n : Nat} {bs : List Nat} {w w' : World} {ao : Option Addr} {l : List α} (h : RowsAt c n w ao l) (hz : w.heap.size ≤ w'.heap.size) (hk : ∀ k, k < w.heap.size → k ∉ bs → w'.heap[k]? = w.heap[k]?) (ho : ∀ b ∈ bs, ∀ k off, l ≠ [] → ao = some ⟨k, off, none⟩ → k ≠ b) : RowsAt c n w' ao l where
  lies i hi := by
    obtain ⟨b, off, e, hb, hc⟩ := h.lies i hi
    have := hk b hb (fun hm => ho b hm b off (fun e => by rw [e] at hi; simp at hi) e rfl)
    exact ⟨b, off, e, by omega, fun j v hv => cell_on this (hc j v hv)⟩
  small := h.small
theorem RowsAt.offX {α : Type} {c : α → List Value} {n : Nat} {w : World} {ao : Option Addr} {l : List α} (h : RowsAt c n w ao l) {X : Nat} (hX : w.heap.size ≤ X) : ∀ k off, l ≠ [] → ao = some ⟨k, off, none⟩ → k ≠ X := by
  intro k off hl e
  obtain ⟨b, off', e', hb, _⟩ := h.lies 0 (by cases l with | nil => exact absurd rfl hl | cons x r => simp)
  rw [e] at e'
  cases e'
  omega
def mfR {α : Type} (c : α → List Value) (n : Nat) (ao : Option Addr) (l : List α) : En.Mf := ⟨fun w => RowsAt c n w ao l, fun X => ∀ k off, l ≠ [] → ao = some ⟨k, off, none⟩ → k ≠ X, fun _ _ _ hz hk h ho => ⟨h.on hz hk ho, fun _ hb => h.offX hb⟩⟩
theorem VAt.on {bs : List Nat} {w w' : World} {g : Nat} {l : List Value} (h : VAt w g l) (hz : w.heap.size ≤ w'.heap.size) (hk : ∀ k, k < w.heap.size → k ∉ bs → w'.heap[k]? = w.heap[k]?) (ho : ∀ b ∈ bs, g ≠ b) : VAt w' g l := by
  have e := hk g h.lt (fun hm => ho g hm rfl)
  exact ⟨Nat.lt_of_lt_of_le h.lt hz, fun j v hv => cell_on e (h.c j v hv), fun j => by rw [World.frozen?_of_block (w := w) e]; exact h.fz j⟩
def mfT (l : List Sv) (g0 g1 g2 gn : Nat) : En.Mf := ⟨fun w => TabAt w l g0 g1 g2 gn, fun X => g0 ≠ X ∧ g1 ≠ X ∧ g2 ≠ X ∧ gn ≠ X, fun bs w w' hz hk h ho => ⟨⟨h.v0.on hz hk fun b hb => (ho b hb).1, h.v1.on hz hk fun b hb => (ho b hb).2.1, h.v2.on hz hk fun b hb => (ho b hb).2.2.1, by
  obtain ⟨L, v, h1, h2⟩ := h.n.v
  exact ⟨L, v.on hz hk fun b hb => (ho b hb).2.2.2, h1, h2⟩⟩, fun b hb => by
  obtain ⟨L, v, h1, h2⟩ := h.n.v
  have e0 := h.v0.lt
  have e1 := h.v1.lt
  have e2 := h.v2.lt
  have e3 := v.lt
  exact ⟨by omega, by omega, by omega, by omega⟩⟩⟩

theorem firstF_all {α : Type} (f : α → Int) : ∀ (l : List α) (j : Nat), (firstF f l j).1 = 0 → ∀ x ∈ l, f x = 0
  | [], _, _, x, hx => by cases hx
  | y :: t, j, h, x, hx => by
    unfold firstF at h
    by_cases h0 : f y = 0
    · rw [if_pos h0] at h
      rcases List.mem_cons.1 hx with rfl | hx
      · exact h0
      · exact firstF_all f t (j + 1) h x hx
    · rw [if_neg h0] at h
      exact absurd h h0
theorem sieveE_kind (s : Sv) (h : svE s = 0) : (Lit.int .i64 s.k).wf = true := by
  have : 1 ≤ s.k ∧ s.k ≤ 7 := by
    unfold svE sieveE at h
    rcases kind_cases s.k with e | e | e | e | e | e | e | ⟨h1, h2, h3, h4, h5, h6, h7⟩
    all_goals first | omega | (simp [h1, h2, h3, h4, h5, h6, h7] at h)
  show (decide ((-9223372036854775808 : Int) ≤ s.k) && decide (s.k ≤ (9223372036854775807 : Int))) = true
  simp
  omega
theorem right_conf (c : Cf) (h : (wrongC c).1 = 0) : c.svs.length ≤ 6 ∧ ∀ s ∈ c.svs, (Lit.int .i64 s.k).wf = true := by
  unfold wrongC at h
  cases m : manyB c with
  | true => rw [m] at h; simp at h
  | false =>
    rw [m] at h
    cases q : limitsB c with
    | false => rw [q] at h; simp at h
    | true =>
      rw [q] at h
      simp only [Bool.false_eq_true, if_false, if_true] at h
      have h6 : c.svs.length ≤ 6 := by
        unfold manyB at m
        simp at m
        omega
      refine ⟨h6, fun s hs => sieveE_kind s ?_⟩
      by_cases e : (firstF svE c.svs 0).1 = 0
      · exact firstF_all svE c.svs 0 e s hs
      · rw [if_neg e] at h
        exact absurd h e

theorem rows_range {α : Type} {c : α → List Value} {k : Nat} {w : World} {ao : Option Addr} {l : List α} {b o : Nat} (h : RowsAt c k w ao l) (e : ao = some ⟨b, o, none⟩) (i : Nat) {v : α} (hv : l[i]? = some v) : w.rangeAt b (o + i * k) (c v) := by
  intro j u hu
  obtain ⟨hi, he⟩ := List.getElem?_eq_some_iff.1 hv
  obtain ⟨b', o', e', _, hc⟩ := h.lies i hi
  rw [e] at e'
  cases e'
  rw [← he] at hu
  exact hc j u hu
theorem nx_cell {w : World} {g : Nat} {l : List Sv} (h : NxAt w g (rowL l 1) l.length) (j : Nat) (hj : j ≤ l.length) : w.cell? ⟨g, 0 + j * 1, none⟩ = some (.int .i64 (nx (rowL l 1) (l.length - j) : Nat)) := by
  obtain ⟨L, v, -, ha⟩ := h.v
  rw [Nat.zero_add, Nat.mul_one]
  have := v.c j _ (ha j (by rw [rowL_len]; omega) (by rw [rowL_len]; exact hj))
  rwa [rowL_len] at this
theorem nx_yes (l : List Sv) (j d : Nat) (sv : Sv) (hsv : l[j]? = some sv) (hd : l.length = j + d) (h : canB sv.k sv.n 1 = true) : nx (rowL l 1) d = j := by
  have hj := (List.getElem?_eq_some_iff.1 hsv).1
  obtain ⟨d', rfl⟩ : ∃ d', d = d' + 1 := ⟨d - 1, by omega⟩
  rw [nx_succ, rowL_len, show l.length - (d' + 1) = j by omega, List.getD_eq_getElem?_getD]
  simp [rowL, hsv, h]
theorem nx_no (l : List Sv) (j d : Nat) (sv : Sv) (hsv : l[j]? = some sv) (hd : l.length = j + d) (h : canB sv.k sv.n 1 = false) : nx (rowL l 1) d = nx (rowL l 1) (d - 1) := by
  have hj := (List.getElem?_eq_some_iff.1 hsv).1
  obtain ⟨d', rfl⟩ : ∃ d', d = d' + 1 := ⟨d - 1, by omega⟩
  rw [nx_succ, rowL_len, show l.length - (d' + 1) = j by omega, List.getD_eq_getElem?_getD]
  simp [rowL, hsv, h]
theorem by_cell {w : World} {g : Nat} {l : List Sv} {call : Int} (h : VAt w g ((rowL l call).map Value.bool)) {i : Nat} {sv : Sv} (hs : l[i]? = some sv) : w.cell? ⟨g, 0 + i * 1, none⟩ = some (.bool (canB sv.k sv.n call)) := by
  rw [Nat.zero_add, Nat.mul_one]
  refine h.c i _ ?_
  simp [rowL, hs]
def mfBy (l : List Sv) (X : Nat) (G : Nat → Prop) : En.Mf := ⟨fun w => ByAt X G w l ∧ ∀ b, G b → b < w.heap.size, fun b => X ≠ b ∧ ¬ G b, fun bs w w' hz hk h ho => by
  have hx := hk X h.1.s (fun hm => (ho X hm).1 rfl)
  refine ⟨⟨⟨fun j hj => ?_, fun j => by rw [World.frozen?_of_block (w := w) hx]; exact h.1.z j, Nat.lt_of_lt_of_le h.1.s hz⟩, fun b hb => Nat.lt_of_lt_of_le (h.2 b hb) hz⟩, fun b hb => ⟨fun e => ?_, fun e => ?_⟩⟩
  · obtain ⟨ao, cc, h1, h2, h3⟩ := h.1.c j hj
    exact ⟨ao, cc, cell_on hx h1, h2.on hz hk fun b hb k off _ e => fun e' => (ho b hb).2 (e' ▸ (h3 k off e).2), h3⟩
  · have := h.1.s
    omega
  · have := h.2 b e
    omega⟩
theorem byAt_lt {X : Nat} {G : Nat → Prop} {w : World} {l : List Sv} (h : ByAt X G w l) (hl : 0 < l.length) : ByAt X (fun b => G b ∧ b < w.heap.size) w l := by
  refine ⟨fun j hj => ?_, h.z, h.s⟩
  obtain ⟨ao, cc, h1, h2, h3⟩ := h.c j hj
  refine ⟨ao, cc, h1, h2, fun b off e => ⟨(h3 b off e).1, (h3 b off e).2, ?_⟩⟩
  obtain ⟨b', off', e', hb, _⟩ := h2.lies 0 (by rw [rowL_len]; exact hl)
  rw [e] at e'
  cases e'
  exact hb
theorem told_bel (l : List Sv) (X f k : Nat) (G : Nat → Prop) (w : World) (h : ByAt X G w l) (hf : f < l.length) (hk : k < 3) (h6 : l.length ≤ 6) :
    Calls Try.prog 12 #[.int .i64 f, .int .i64 ((k : Int) + 1), .pointer (some ⟨X, 0, none⟩)] w fun e w' => e = .returned (.bool (canB l[f].k l[f].n ((k : Int) + 1))) ∧ Below w.heap.size w w' := by
  refine (told_any l X f k G w h hf hk h6).mono ?_
  rintro e w' ⟨h1, rfl⟩
  exact ⟨h1, Below.refl _ _⟩
theorem wrapI {x : Int} (h1 : -9223372036854775808 ≤ x) (h2 : x < 9223372036854775808) : IntKind.i64.wrap x = x := by
  rw [IntKind.wrap_i64]
  omega
def mfC (c : Cf) (ao bo po : Option Addr) : En.Mf := ⟨fun w => CfLies w c ao bo po, fun X => (∀ k off, c.svs ≠ [] → ao = some ⟨k, off, none⟩ → k ≠ X) ∧ (∀ k off, c.ups ≠ [] → bo = some ⟨k, off, none⟩ → k ≠ X) ∧ (∀ k off, c.bds ≠ [] → po = some ⟨k, off, none⟩ → k ≠ X), fun _ _ _ hz hk h ho => ⟨⟨h.s.on hz hk fun b hb => (ho b hb).1, h.u.on hz hk fun b hb => (ho b hb).2.1, h.b.on hz hk fun b hb => (ho b hb).2.2, h.sok, h.uok, h.bok⟩, fun _ hb => ⟨h.s.offX hb, h.u.offX hb, h.b.offX hb⟩⟩⟩

set_option maxHeartbeats 1000000 in
theorem flat_any (c : Cf) (ao bo po : Option Addr) (ac bc pc : Nat) (w : World) (hl : CfLies w c ao bo po) :
    Calls Try.prog 3 #[.agg #[.slice ao c.svs.length ac, .slice bo c.ups.length bc, .slice po c.bds.length pc, .int .i64 c.fl, .int .i64 c.co, .int .i64 c.wa, .int .i64 c.ti]] w fun e w' => e = .returned (.bool true) ∧ Below w.heap.size w w' := by
  have hM : Try.prog.follows .mixedOrders = true := by kernel_rfl
  have hR := right_conf c
  obtain ⟨R, eR⟩ : ∃ R, wrongC c = R := ⟨_, rfl⟩
  rw [eR] at hR
  refine En.start 103 [] [En.vv (.agg #[.slice ao c.svs.length ac, .slice bo c.ups.length bc, .slice po c.bds.length pc, .int .i64 c.fl, .int .i64 c.co, .int .i64 c.wa, .int .i64 c.ti])] [] [mfC c ao bo po] hM Try.func3 (by kernel_rfl) (by kernel_rfl) (by kernel_rfl) (En.bk_nil _) (by simp [mfC, hl]) ?_
  refine En.call _ [En.vv _] hM (by kernel_rfl) (fun bs a w1 A => (rwrongC_any c ao bo po ac bc pc w1 (A.fact 0 (mfC c ao bo po) (by kernel_rfl)).1).mono ?_)
  rw [eR]
  rintro e w2 ⟨rfl, bl⟩
  refine ⟨_, [], rfl, bl, by simp, ?_⟩
  refine En.split (decide (¬ R.1 = 0)) hM (by kernel_rfl) (fun h0 => ?_) (fun h0 => ?_)
  · refine En.ret (vs := [.bool true]) (by kernel_rfl) (by kernel_rfl) (fun bs a w A => ⟨rfl, A.t.whole⟩)
  have h0 : R.1 = 0 := by simpa using h0
  obtain ⟨h6, hwf⟩ := hR h0
  refine En.call _ [En.vv _] hM (by kernel_rfl) (fun bs a w1 A => (lay_any c ao bo po ac bc pc w1 (A.fact 0 (mfC c ao bo po) (by kernel_rfl)).1.s h6).mono ?_)
  rintro e w3 ⟨g0, g1, g2, gn, rfl, hT, bl, n0, n1, n2, n3⟩
  refine ⟨_, [mfT c.svs g0 g1 g2 gn], rfl, bl, ?_, ?_⟩
  · intro x hx
    rw [List.mem_singleton.1 hx]
    refine ⟨hT, fun b hb => ?_⟩
    have := A.b.mem b hb
    exact ⟨by omega, by omega, by omega, by omega⟩
  refine En.no (decide (¬ ((c.svs.length + 1 : Nat) : Int) = IntKind.i64.wrap ((c.svs.length : Int) + 1))) hM (by kernel_rfl) (by rw [wrapI (by omega) (by omega)]; simp) ?_
  have hn := rowL_len c.svs 1
  refine En.loop (α := Int × Int × Nat) (fun p => p.2.2 ≤ c.svs.length + 1 ∧ p.1 = nx (rowL c.svs 1) (p.2.2 - 1) ∧ p.2.1 = (c.svs.length : Int) - p.2.2) (fun p => c.svs.length + 1 - p.2.2) (fun p st => ⟨(7, En.vi p.1) :: (8, En.vi p.2.1) :: En.slo [1, 5, 6] st, st.b, st.m⟩) (c.svs.length, c.svs.length, 0) hM ⟨by simp, by simp [nx, hn], by simp⟩ (by kernel_rfl) (by kernel_rfl) (by kernel_rfl) (by kernel_rfl) ?_
  rintro ⟨x, i, d⟩ ⟨hd, hx, hi⟩ I hI
  simp only at hd hx hi
  refine En.split (decide ((0 : Int) ≤ i)) hM (by kernel_rfl) (fun h => ?_) (fun h => ?_)
  · have h := of_decide_eq_true h
    refine En.split (decide (i < (c.svs.length : Int))) hM (by kernel_rfl) (fun h2 => ?_) (fun h2 => ?_)
    · obtain ⟨j, rfl⟩ : ∃ j : Nat, i = j := ⟨i.toNat, by omega⟩
      have h2 := of_decide_eq_true h2
      have hj : j < c.svs.length := by omega
      obtain ⟨b, off, ea⟩ : ∃ b off, ao = some ⟨b, off, none⟩ := by obtain ⟨b, off, e, _⟩ := hl.s.lies j hj; exact ⟨b, off, e⟩
      obtain ⟨sv, hsv⟩ : ∃ sv, c.svs[j]? = some sv := ⟨_, List.getElem?_eq_getElem hj⟩
      have hwv := hwf sv (List.mem_of_getElem? hsv)
      refine En.idx 0 j b off 4 hM (by kernel_rfl) ea rfl hj ?_
      refine En.ldR 0 (svL sv) hM (by kernel_rfl) rfl (fun w F => rows_range (En.fct F 1 (mfC c ao bo po) (by kernel_rfl)).s ea j hsv) ?_
      refine En.call _ [En.vv _, En.vi _] hM (by kernel_rfl) (fun bs a w A => (rcancall_any sv.k sv.n sv.key sv.text 1 hwv w).mono ?_)
      rintro e w4 ⟨rfl, bl4⟩
      refine ⟨_, [], rfl, bl4, by simp, ?_⟩
      refine En.split (canB sv.k sv.n 1) hM (by kernel_rfl) (fun h3 => ?_) (fun h3 => ?_)
      · have e1 := nx_yes c.svs j d sv hsv (by omega) h3
        have hX : (j : Int) = nx (rowL c.svs 1) d := by rw [e1]
        refine En.idx 0 j gn 0 1 (m := c.svs.length + 1) hM (by kernel_rfl) rfl rfl (by omega) ?_
        refine En.ld1 0 (.int .i64 (nx (rowL c.svs 1) (c.svs.length - j) : Nat)) hM (by kernel_rfl) (fun w F => nx_cell (En.fct F 0 (mfT c.svs g0 g1 g2 gn) (by kernel_rfl)).n j (by omega)) ?_
        refine En.no (decide (¬ ((nx (rowL c.svs 1) (c.svs.length - j) : Nat) : Int) = (j : Int))) hM (by kernel_rfl) (by rw [show c.svs.length - j = d by omega, e1]; simp) ?_
        refine En.reW 8 ((j : Int) - 1) hM (by kernel_rfl) (by omega) (by omega) ?_
        exact En.again I (by kernel_rfl) (fun bs a w A => hI ((j : Int), (j : Int) - 1, d + 1) bs a w ⟨by simp only; omega, by simp only [Nat.add_sub_cancel]; exact hX, by simp only; omega⟩ (by simp only; omega) (A.sub (by kernel_rfl) (by kernel_rfl) (by kernel_rfl)))
      · have e1 := nx_no c.svs j d sv hsv (by omega) h3
        have hX : x = nx (rowL c.svs 1) d := by rw [e1]; exact hx
        refine En.idx 0 j gn 0 1 (m := c.svs.length + 1) hM (by kernel_rfl) rfl rfl (by omega) ?_
        refine En.ld1 0 (.int .i64 (nx (rowL c.svs 1) (c.svs.length - j) : Nat)) hM (by kernel_rfl) (fun w F => nx_cell (En.fct F 0 (mfT c.svs g0 g1 g2 gn) (by kernel_rfl)).n j (by omega)) ?_
        refine En.no (decide (¬ ((nx (rowL c.svs 1) (c.svs.length - j) : Nat) : Int) = x)) hM (by kernel_rfl) (by rw [show c.svs.length - j = d by omega, hX]; simp) ?_
        refine En.reW 8 ((j : Int) - 1) hM (by kernel_rfl) (by omega) (by omega) ?_
        exact En.again I (by kernel_rfl) (fun bs a w A => hI (x, (j : Int) - 1, d + 1) bs a w ⟨by simp only; omega, by simp only [Nat.add_sub_cancel]; exact hX, by simp only; omega⟩ (by simp only; omega) (A.sub (by kernel_rfl) (by kernel_rfl) (by kernel_rfl)))
    · have h2 := of_decide_eq_false h2
      have hd0 : d = 0 := by omega
      subst hd0
      have hin : i = (c.svs.length : Int) := by simpa using hi
      have hX : x = nx (rowL c.svs 1) 0 := hx
      refine En.idx 0 c.svs.length gn 0 1 (m := c.svs.length + 1) hM (by kernel_rfl) rfl hin (by omega) ?_
      refine En.ld1 0 (.int .i64 (nx (rowL c.svs 1) (c.svs.length - c.svs.length) : Nat)) hM (by kernel_rfl) (fun w F => nx_cell (En.fct F 0 (mfT c.svs g0 g1 g2 gn) (by kernel_rfl)).n c.svs.length (by omega)) ?_
      refine En.no (decide (¬ ((nx (rowL c.svs 1) (c.svs.length - c.svs.length) : Nat) : Int) = x)) hM (by kernel_rfl) (by rw [Nat.sub_self, hX]; simp) ?_
      refine En.reW 8 (i - 1) hM (by kernel_rfl) (by omega) (by omega) ?_
      exact En.again I (by kernel_rfl) (fun bs a w A => hI (x, i - 1, 0 + 1) bs a w ⟨by simp only; omega, by simp only [Nat.add_sub_cancel]; exact hX, by simp only; omega⟩ (by simp only; omega) (A.sub (by kernel_rfl) (by kernel_rfl) (by kernel_rfl)))
  · refine En.loop (α := Nat) (fun k => k ≤ 3) (fun k => 3 - k) (fun k st => ⟨(55, En.vi k) :: En.slo [1, 5, 6] st, st.b, st.m⟩) 0 hM (by omega) (by kernel_rfl) (by kernel_rfl) (by kernel_rfl) (by kernel_rfl) ?_
    intro k hk I hI
    refine En.split (decide ((k : Int) < 3)) hM (by kernel_rfl) (fun h => ?_) (fun h => ?_)
    · have h := of_decide_eq_true h
      obtain ⟨gk, hgk, hvk⟩ : ∃ gk : Nat, [g0, g1, g2][k]? = some gk ∧ ∀ w, TabAt w c.svs g0 g1 g2 gn → VAt w gk ((rowL c.svs ((k : Int) + 1)).map Value.bool) := by
        rcases (by omega : k = 0 ∨ k = 1 ∨ k = 2) with rfl | rfl | rfl
        · exact ⟨g0, rfl, fun w h => h.v0⟩
        · exact ⟨g1, rfl, fun w h => h.v1⟩
        · exact ⟨g2, rfl, fun w h => h.v2⟩
      rcases (by omega : k = 0 ∨ k = 1 ∨ k = 2) with rfl | rfl | rfl
      all_goals
        have ek := Option.some.inj hgk
        subst ek
      · refine En.idxA 0 0 1 0 3 1 hM (by kernel_rfl) (by kernel_rfl) rfl (by omega) ?_
        refine En.no (decide (¬ (c.svs.length : Int) = c.svs.length)) hM (by kernel_rfl) (by simp) ?_
        refine En.loop (α := Nat) (fun i => i ≤ c.svs.length) (fun i => c.svs.length - i) (fun i st => ⟨(68, En.vi i) :: En.slo [1, 5, 6, 9, 55, 66, 67] st, st.b, st.m⟩) 0 hM (by omega) (by kernel_rfl) (by kernel_rfl) (by kernel_rfl) (by kernel_rfl) ?_
        intro i hi J hJ
        refine En.split (decide ((i : Int) < (c.svs.length : Int))) hM (by kernel_rfl) (fun h2 => ?_) (fun h2 => ?_)
        · have h2 := of_decide_eq_true h2
          have hj : i < c.svs.length := by omega
          obtain ⟨b, off, ea⟩ : ∃ b off, ao = some ⟨b, off, none⟩ := by obtain ⟨b, off, e, _⟩ := hl.s.lies i hj; exact ⟨b, off, e⟩
          obtain ⟨sv, hsv⟩ : ∃ sv, c.svs[i]? = some sv := ⟨_, List.getElem?_eq_getElem hj⟩
          have hsv' := (List.getElem?_eq_some_iff.1 hsv).2
          have hwv := hwf sv (List.mem_of_getElem? hsv)
          refine En.idx 0 i b off 4 hM (by kernel_rfl) ea rfl hj ?_
          refine En.ldR 0 (svL sv) hM (by kernel_rfl) rfl (fun w F => rows_range (En.fct F 1 (mfC c ao bo po) (by kernel_rfl)).s ea i hsv) ?_
          refine En.idxA 2 0 1 0 3 1 hM (by kernel_rfl) (by kernel_rfl) rfl (by omega) ?_
          refine En.idx 5 i g0 0 1 (m := c.svs.length) hM (by kernel_rfl) rfl rfl hj ?_
          refine En.ld1 6 (.bool (canB sv.k sv.n ((0 : Nat) + 1))) hM (by kernel_rfl) (fun w F => by_cell (hvk w (En.fct F 0 (mfT c.svs g0 g1 g2 gn) (by kernel_rfl))) hsv) ?_
          refine En.call _ [En.vv _, En.vi _] hM (by kernel_rfl) (fun bs a w A => (rcancall_any sv.k sv.n sv.key sv.text ((0 : Nat) + 1) hwv w).mono ?_)
          rintro e w4 ⟨rfl, bl4⟩
          refine ⟨_, [], rfl, bl4, by simp, ?_⟩
          refine En.no (!(canB sv.k sv.n ((0 : Nat) + 1) == canB sv.k sv.n ((0 : Nat) + 1))) hM (by kernel_rfl) (by simp) ?_
          refine En.idxA 21 0 1 0 3 1 hM (by kernel_rfl) (by kernel_rfl) rfl (by omega) ?_
          refine En.idx 24 i g0 0 1 (m := c.svs.length) hM (by kernel_rfl) rfl rfl hj ?_
          refine En.ld1 25 (.bool (canB sv.k sv.n ((0 : Nat) + 1))) hM (by kernel_rfl) (fun w F => by_cell (hvk w (En.fct F 0 (mfT c.svs g0 g1 g2 gn) (by kernel_rfl))) hsv) ?_
          refine En.call _ [En.vv _] hM (by kernel_rfl) (fun bs a w A => (by_any c.svs g0 g1 g2 gn w (A.fact 0 (mfT c.svs g0 g1 g2 gn) (by kernel_rfl)).1 h6).mono ?_)
          rintro e w5 ⟨rfl, hby, bl5⟩
          have hT5 := (A.fact 0 (mfT c.svs g0 g1 g2 gn) (by kernel_rfl))
          refine ⟨_, [mfBy c.svs (w.heap.size + 1) (fun b => (w.heap.size ≤ b ∨ b = g0 ∨ b = g1 ∨ b = g2) ∧ b < w5.heap.size)], rfl, bl5, ?_, ?_⟩
          · intro x hx
            rw [List.mem_singleton.1 hx]
            refine ⟨⟨byAt_lt hby (by omega), fun b hb => hb.2⟩, fun b hb => ?_⟩
            have h8 := A.b.mem b hb
            obtain ⟨q0, q1, q2, _⟩ := hT5.2 b hb
            exact ⟨by omega, fun e => by omega⟩
          refine En.call _ [En.vi _, En.vi _, En.vv _] hM (by kernel_rfl) (fun bs a w6 A => (told_bel c.svs _ i 0 _ w6 (A.fact 0 (mfBy c.svs (w.heap.size + 1) (fun b => (w.heap.size ≤ b ∨ b = g0 ∨ b = g1 ∨ b = g2) ∧ b < w5.heap.size)) (by kernel_rfl)).1.1 hj (by omega) h6).mono ?_)
          rw [hsv']
          rintro e w7 ⟨rfl, bl7⟩
          refine ⟨_, [], rfl, bl7, by simp, ?_⟩
          refine En.no (!(canB sv.k sv.n ((0 : Nat) + 1) == canB sv.k sv.n ((0 : Nat) + 1))) hM (by kernel_rfl) (by simp) ?_
          refine En.reW 68 ((i : Int) + 1) hM (by kernel_rfl) (by omega) (by omega) ?_
          exact En.again J (by kernel_rfl) (fun bs a w A => hJ (i + 1) _ a w (by omega) (by omega) (A.cut 2 1 (by kernel_rfl) (by kernel_rfl) (by kernel_rfl) (by kernel_rfl) (by kernel_rfl)))

        · refine En.reW 55 ((0 : Int) + 1) hM (by kernel_rfl) (by omega) (by omega) ?_
          exact En.again I (by kernel_rfl) (fun bs a w A => hI (0 + 1) bs a w (by omega) (by omega) (A.sub (by kernel_rfl) (by kernel_rfl) (by kernel_rfl)))
      · refine En.idxA 0 1 1 0 3 1 hM (by kernel_rfl) (by kernel_rfl) rfl (by omega) ?_
        refine En.no (decide (¬ (c.svs.length : Int) = c.svs.length)) hM (by kernel_rfl) (by simp) ?_
        refine En.loop (α := Nat) (fun i => i ≤ c.svs.length) (fun i => c.svs.length - i) (fun i st => ⟨(68, En.vi i) :: En.slo [1, 5, 6, 9, 55, 66, 67] st, st.b, st.m⟩) 0 hM (by omega) (by kernel_rfl) (by kernel_rfl) (by kernel_rfl) (by kernel_rfl) ?_
        intro i hi J hJ
        refine En.split (decide ((i : Int) < (c.svs.length : Int))) hM (by kernel_rfl) (fun h2 => ?_) (fun h2 => ?_)
        · have h2 := of_decide_eq_true h2
          have hj : i < c.svs.length := by omega
          obtain ⟨b, off, ea⟩ : ∃ b off, ao = some ⟨b, off, none⟩ := by obtain ⟨b, off, e, _⟩ := hl.s.lies i hj; exact ⟨b, off, e⟩
          obtain ⟨sv, hsv⟩ : ∃ sv, c.svs[i]? = some sv := ⟨_, List.getElem?_eq_getElem hj⟩
          have hsv' := (List.getElem?_eq_some_iff.1 hsv).2
          have hwv := hwf sv (List.mem_of_getElem? hsv)
          refine En.idx 0 i b off 4 hM (by kernel_rfl) ea rfl hj ?_
          refine En.ldR 0 (svL sv) hM (by kernel_rfl) rfl (fun w F => rows_range (En.fct F 1 (mfC c ao bo po) (by kernel_rfl)).s ea i hsv) ?_
          refine En.idxA 2 1 1 0 3 1 hM (by kernel_rfl) (by kernel_rfl) rfl (by omega) ?_
          refine En.idx 5 i g1 0 1 (m := c.svs.length) hM (by kernel_rfl) rfl rfl hj ?_
          refine En.ld1 6 (.bool (canB sv.k sv.n ((1 : Nat) + 1))) hM (by kernel_rfl) (fun w F => by_cell (hvk w (En.fct F 0 (mfT c.svs g0 g1 g2 gn) (by kernel_rfl))) hsv) ?_
          refine En.call _ [En.vv _, En.vi _] hM (by kernel_rfl) (fun bs a w A => (rcancall_any sv.k sv.n sv.key sv.text ((1 : Nat) + 1) hwv w).mono ?_)
          rintro e w4 ⟨rfl, bl4⟩
          refine ⟨_, [], rfl, bl4, by simp, ?_⟩
          refine En.no (!(canB sv.k sv.n ((1 : Nat) + 1) == canB sv.k sv.n ((1 : Nat) + 1))) hM (by kernel_rfl) (by simp) ?_
          refine En.idxA 21 1 1 0 3 1 hM (by kernel_rfl) (by kernel_rfl) rfl (by omega) ?_
          refine En.idx 24 i g1 0 1 (m := c.svs.length) hM (by kernel_rfl) rfl rfl hj ?_
          refine En.ld1 25 (.bool (canB sv.k sv.n ((1 : Nat) + 1))) hM (by kernel_rfl) (fun w F => by_cell (hvk w (En.fct F 0 (mfT c.svs g0 g1 g2 gn) (by kernel_rfl))) hsv) ?_
          refine En.call _ [En.vv _] hM (by kernel_rfl) (fun bs a w A => (by_any c.svs g0 g1 g2 gn w (A.fact 0 (mfT c.svs g0 g1 g2 gn) (by kernel_rfl)).1 h6).mono ?_)
          rintro e w5 ⟨rfl, hby, bl5⟩
          have hT5 := (A.fact 0 (mfT c.svs g0 g1 g2 gn) (by kernel_rfl))
          refine ⟨_, [mfBy c.svs (w.heap.size + 1) (fun b => (w.heap.size ≤ b ∨ b = g0 ∨ b = g1 ∨ b = g2) ∧ b < w5.heap.size)], rfl, bl5, ?_, ?_⟩
          · intro x hx
            rw [List.mem_singleton.1 hx]
            refine ⟨⟨byAt_lt hby (by omega), fun b hb => hb.2⟩, fun b hb => ?_⟩
            have h8 := A.b.mem b hb
            obtain ⟨q0, q1, q2, _⟩ := hT5.2 b hb
            exact ⟨by omega, fun e => by omega⟩
          refine En.call _ [En.vi _, En.vi _, En.vv _] hM (by kernel_rfl) (fun bs a w6 A => (told_bel c.svs _ i 1 _ w6 (A.fact 0 (mfBy c.svs (w.heap.size + 1) (fun b => (w.heap.size ≤ b ∨ b = g0 ∨ b = g1 ∨ b = g2) ∧ b < w5.heap.size)) (by kernel_rfl)).1.1 hj (by omega) h6).mono ?_)
          rw [hsv']
          rintro e w7 ⟨rfl, bl7⟩
          refine ⟨_, [], rfl, bl7, by simp, ?_⟩
          refine En.no (!(canB sv.k sv.n ((1 : Nat) + 1) == canB sv.k sv.n ((1 : Nat) + 1))) hM (by kernel_rfl) (by simp) ?_
          refine En.reW 68 ((i : Int) + 1) hM (by kernel_rfl) (by omega) (by omega) ?_
          exact En.again J (by kernel_rfl) (fun bs a w A => hJ (i + 1) _ a w (by omega) (by omega) (A.cut 2 1 (by kernel_rfl) (by kernel_rfl) (by kernel_rfl) (by kernel_rfl) (by kernel_rfl)))

        · refine En.reW 55 ((1 : Int) + 1) hM (by kernel_rfl) (by omega) (by omega) ?_
          exact En.again I (by kernel_rfl) (fun bs a w A => hI (1 + 1) bs a w (by omega) (by omega) (A.sub (by kernel_rfl) (by kernel_rfl) (by kernel_rfl)))
      · refine En.idxA 0 2 1 0 3 1 hM (by kernel_rfl) (by kernel_rfl) rfl (by omega) ?_
        refine En.no (decide (¬ (c.svs.length : Int) = c.svs.length)) hM (by kernel_rfl) (by simp) ?_
        refine En.loop (α := Nat) (fun i => i ≤ c.svs.length) (fun i => c.svs.length - i) (fun i st => ⟨(68, En.vi i) :: En.slo [1, 5, 6, 9, 55, 66, 67] st, st.b, st.m⟩) 0 hM (by omega) (by kernel_rfl) (by kernel_rfl) (by kernel_rfl) (by kernel_rfl) ?_
        intro i hi J hJ
        refine En.split (decide ((i : Int) < (c.svs.length : Int))) hM (by kernel_rfl) (fun h2 => ?_) (fun h2 => ?_)
        · have h2 := of_decide_eq_true h2
          have hj : i < c.svs.length := by omega
          obtain ⟨b, off, ea⟩ : ∃ b off, ao = some ⟨b, off, none⟩ := by obtain ⟨b, off, e, _⟩ := hl.s.lies i hj; exact ⟨b, off, e⟩
          obtain ⟨sv, hsv⟩ : ∃ sv, c.svs[i]? = some sv := ⟨_, List.getElem?_eq_getElem hj⟩
          have hsv' := (List.getElem?_eq_some_iff.1 hsv).2
          have hwv := hwf sv (List.mem_of_getElem? hsv)
          refine En.idx 0 i b off 4 hM (by kernel_rfl) ea rfl hj ?_
          refine En.ldR 0 (svL sv) hM (by kernel_rfl) rfl (fun w F => rows_range (En.fct F 1 (mfC c ao bo po) (by kernel_rfl)).s ea i hsv) ?_
          refine En.idxA 2 2 1 0 3 1 hM (by kernel_rfl) (by kernel_rfl) rfl (by omega) ?_
          refine En.idx 5 i g2 0 1 (m := c.svs.length) hM (by kernel_rfl) rfl rfl hj ?_
          refine En.ld1 6 (.bool (canB sv.k sv.n ((2 : Nat) + 1))) hM (by kernel_rfl) (fun w F => by_cell (hvk w (En.fct F 0 (mfT c.svs g0 g1 g2 gn) (by kernel_rfl))) hsv) ?_
          refine En.call _ [En.vv _, En.vi _] hM (by kernel_rfl) (fun bs a w A => (rcancall_any sv.k sv.n sv.key sv.text ((2 : Nat) + 1) hwv w).mono ?_)
          rintro e w4 ⟨rfl, bl4⟩
          refine ⟨_, [], rfl, bl4, by simp, ?_⟩
          refine En.no (!(canB sv.k sv.n ((2 : Nat) + 1) == canB sv.k sv.n ((2 : Nat) + 1))) hM (by kernel_rfl) (by simp) ?_
          refine En.idxA 21 2 1 0 3 1 hM (by kernel_rfl) (by kernel_rfl) rfl (by omega) ?_
          refine En.idx 24 i g2 0 1 (m := c.svs.length) hM (by kernel_rfl) rfl rfl hj ?_
          refine En.ld1 25 (.bool (canB sv.k sv.n ((2 : Nat) + 1))) hM (by kernel_rfl) (fun w F => by_cell (hvk w (En.fct F 0 (mfT c.svs g0 g1 g2 gn) (by kernel_rfl))) hsv) ?_
          refine En.call _ [En.vv _] hM (by kernel_rfl) (fun bs a w A => (by_any c.svs g0 g1 g2 gn w (A.fact 0 (mfT c.svs g0 g1 g2 gn) (by kernel_rfl)).1 h6).mono ?_)
          rintro e w5 ⟨rfl, hby, bl5⟩
          have hT5 := (A.fact 0 (mfT c.svs g0 g1 g2 gn) (by kernel_rfl))
          refine ⟨_, [mfBy c.svs (w.heap.size + 1) (fun b => (w.heap.size ≤ b ∨ b = g0 ∨ b = g1 ∨ b = g2) ∧ b < w5.heap.size)], rfl, bl5, ?_, ?_⟩
          · intro x hx
            rw [List.mem_singleton.1 hx]
            refine ⟨⟨byAt_lt hby (by omega), fun b hb => hb.2⟩, fun b hb => ?_⟩
            have h8 := A.b.mem b hb
            obtain ⟨q0, q1, q2, _⟩ := hT5.2 b hb
            exact ⟨by omega, fun e => by omega⟩
          refine En.call _ [En.vi _, En.vi _, En.vv _] hM (by kernel_rfl) (fun bs a w6 A => (told_bel c.svs _ i 2 _ w6 (A.fact 0 (mfBy c.svs (w.heap.size + 1) (fun b => (w.heap.size ≤ b ∨ b = g0 ∨ b = g1 ∨ b = g2) ∧ b < w5.heap.size)) (by kernel_rfl)).1.1 hj (by omega) h6).mono ?_)
          rw [hsv']
          rintro e w7 ⟨rfl, bl7⟩
          refine ⟨_, [], rfl, bl7, by simp, ?_⟩
          refine En.no (!(canB sv.k sv.n ((2 : Nat) + 1) == canB sv.k sv.n ((2 : Nat) + 1))) hM (by kernel_rfl) (by simp) ?_
          refine En.reW 68 ((i : Int) + 1) hM (by kernel_rfl) (by omega) (by omega) ?_
          exact En.again J (by kernel_rfl) (fun bs a w A => hJ (i + 1) _ a w (by omega) (by omega) (A.cut 2 1 (by kernel_rfl) (by kernel_rfl) (by kernel_rfl) (by kernel_rfl) (by kernel_rfl)))

        · refine En.reW 55 ((2 : Int) + 1) hM (by kernel_rfl) (by omega) (by omega) ?_
          exact En.again I (by kernel_rfl) (fun bs a w A => hI (2 + 1) bs a w (by omega) (by omega) (A.sub (by kernel_rfl) (by kernel_rfl) (by kernel_rfl)))
    · refine En.ret (vs := [.bool true]) (by kernel_rfl) (by kernel_rfl) (fun bs a w A => ⟨rfl, A.t.whole⟩)
end Go.Proofs.Ytbpmcabeghbalaa
