/- Package flat: By, and what it answers. -/
import Derived.Test.YtbpmcabeghbalaaFlC
import Derived.Laws.AppendOwnNone
namespace Go.Proofs.Ytbpmcabeghbalaa
open Go.RowKit

/-- 'append([]T(nil), xs...)', whatever xs: a row of the call's own. -/
theorem wpList_app_nil {P : Program} {w : World} {ops : Array Oper} {rest : List Oper} {o : Oper} {a : Act} {Q : Exit → Act → World → Prop} (hgd : o.guard = none) (s x : Operand) (t : TypeId)
    (ho : o.op = .call { callee := .builtin .append, args := #[s, x], argTypes := #[t, t] })
    (base : Nat) (e : TypeId) (i : TypeInfo) (z : Value) (size bytes : Nat) (ht : P.underlying t = some (.slice e)) (hi : P.info? e = some i) (hz : i.zero = some z)
    (hsize : i.size = size) (hby : i.bytes = bytes) (hzs : z.cells.size = size) (hsz : 0 < size) (hs : a.eval s = .slice none 0 0)
    (ao : Option Addr) (m c : Nat) (news : List Value) (hx : a.eval x = .slice ao m c) (hno : ao = none → m = 0 ∧ c = 0) (hl : news.length = m * size) (hnews : ∀ ad, ao = some ad → ∀ j u, news[j]? = some u → w.cell? (ad.add j) = some u) (h1 : ∀ u ∈ news, u.oneCell' = true)
    (h63 : m ≤ maxLen) (hbytes : m * bytes ≤ 140737488355328) (hbase : base ≤ w.heap.size)
    (h : ∀ ao' c' w', w'.ownsRow base e size (.slice ao' m c') m news → w.grownBy w' none → wpList P ops Q rest (a.put o.dst (.slice ao' m c')) w') : wpList P ops Q (o :: rest) a w := by
  cases ao with
  | none =>
    obtain ⟨rfl, rfl⟩ := hno rfl
    obtain rfl : news = [] := List.eq_nil_of_length_eq_zero (by simpa using hl)
    exact wpList_append_own_none hgd s x t ho base e i size ht hi _ 0 [] hs (World.ownsRow_nil _ _ _ _) hx (h none 0 w (World.ownsRow_nil _ _ _ _) ⟨rfl, rfl, rfl, Nat.le_refl _, fun _ _ _ => rfl⟩)
  | some ad =>
    refine wpList_append_own w hgd s x t ho base e i z size bytes ht hi hz hsize hby hzs hsz _ 0 [] hs (World.ownsRow_nil _ _ _ _) ad m c news hx hl (hnews ad rfl) h1 (by simpa using h63) (by simpa using hbytes) hbase ?_
    intro v' w' ho' hg _
    have ho2 : w'.ownsRow base e size v' m news := by simpa using ho'
    rcases ho2.2 with ⟨rfl, h0⟩ | ⟨g, cap, cur, hv, _⟩
    · subst h0; exact h none 0 w' ho2 hg
    · subst hv; exact h _ _ w' ho2 hg

theorem own_ge {w : World} {base e n cap : Nat} {ao : Option Addr} {l : List Value} {b off : Nat} (h : w.ownsRow base e 1 (.slice ao n cap) n l) (ea : ao = some ⟨b, off, none⟩) : base ≤ b := by
  subst ea
  rcases h.2 with ⟨h', h0⟩ | ⟨g, cap', cur, h', hb, _⟩
  · cases h'
  · simp only [Value.slice.injEq, Option.some.injEq, Addr.mk.injEq] at h'
    omega
def bL (b : Bool) : List Value := [.bool b]
theorem bs_of {w : World} {base n cap : Nat} {ao : Option Addr} {l : List Bool} (h : w.ownsRow base 4 1 (.slice ao n cap) n (l.map Value.bool)) (hn : l.length = n) (h6 : l.length ≤ 6) : RowsAt bL 1 w ao l := by
  refine ⟨fun i hi => ?_, by unfold maxLen; omega⟩
  rcases h.2 with ⟨h', h0⟩ | ⟨g, cap', cur, h', _⟩
  · omega
  · simp only [Value.slice.injEq] at h'
    obtain ⟨rfl, -, rfl⟩ := h'
    have hc := h.cells (g := g) rfl
    refine ⟨g, 0, rfl, (h.lt g rfl).2, fun j v hj => ?_⟩
    match j, hj with
    | 0, hj =>
      simp [bL] at hj
      subst hj
      have := hc i (.bool l[i]) (by simp [hi])
      rw [add_n] at this
      simpa using this
/-- Between the rounds of By. -/
structure ByAt (X : Nat) (G : Nat → Prop) (wr : World) (l : List Sv) : Prop where
  c : ∀ j, j < 3 → ∃ ao cc, wr.cell? ⟨X, j, none⟩ = some (.slice ao l.length cc) ∧ RowsAt bL 1 wr ao (rowL l ((j : Int) + 1)) ∧ ∀ b off, ao = some ⟨b, off, none⟩ → b ≠ X ∧ G b
  z : ∀ j, wr.frozen? ⟨X, j, none⟩ = false
  s : X < wr.heap.size
theorem RowsAt.far {α : Type} {c : α → List Value} {k : Nat} {w : World} {ao : Option Addr} {l : List α} (h : RowsAt c k w ao l) (X j : Nat) (v : Value) (ho : ∀ b off, ao = some ⟨b, off, none⟩ → b ≠ X) : RowsAt c k (w.setCell ⟨X, j, none⟩ v) ao l where
  lies i hi := by
    obtain ⟨b, off, h1, h2, h3⟩ := h.lies i hi
    have := ho b off h1
    exact ⟨b, off, h1, by simpa using h2, fun j u e => by rw [World.cell?_setCell_other (h := fun q => by injection q; omega) ..]; exact h3 j u e⟩
  small := h.small
theorem ByAt.keep {X : Nat} {G : Nat → Prop} {wr w' : World} {l : List Sv} (h : ByAt X G wr l) (b : Below wr.heap.size wr w') : ByAt X G w' l :=
  ⟨fun j hj => by
    obtain ⟨ao, cc, h1, h2, h3⟩ := h.c j hj
    exact ⟨ao, cc, (b.cell (p := ⟨X, j, none⟩) h.s).trans h1, h2.below (Nat.le_refl _) b, h3⟩, fun j => (b.frozen (p := ⟨X, j, none⟩) h.s).trans (h.z j), Nat.lt_of_lt_of_le h.s b.size⟩
theorem ByAt.put {X k cc : Nat} {G : Nat → Prop} {wr : World} {l : List Sv} {ao : Option Addr} (h : ByAt X G wr l) (hk : k < 3) (ha : RowsAt bL 1 wr ao (rowL l ((k : Int) + 1))) (ho : ∀ b off, ao = some ⟨b, off, none⟩ → b ≠ X ∧ G b) : ByAt X G (wr.setCell ⟨X, k, none⟩ (.slice ao l.length cc)) l := by
  refine ⟨fun j hj => ?_, fun j => by simpa using h.z j, by simpa using h.s⟩
  obtain ⟨a1, c1, h1, h2, h3⟩ := h.c j hj
  by_cases e : j = k
  · subst e
    exact ⟨ao, cc, World.cell?_setCell_same (h := h1) .., ha.far _ _ _ (fun b off e => (ho b off e).1), ho⟩
  · exact ⟨a1, c1, by rw [World.cell?_setCell_other (h := fun q => by injection q; omega) ..]; exact h1, h2.far _ _ _ (fun b off e => (h3 b off e).1), h3⟩
theorem vat_rows {w : World} {g : Nat} {l : List Bool} (h : VAt w g (l.map Value.bool)) (h6 : l.length ≤ 6) : RowsAt bL 1 w (some ⟨g, 0, none⟩) l := by
  refine ⟨fun i hi => ⟨g, 0, rfl, h.lt, fun j v hj => ?_⟩, by unfold maxLen; omega⟩
  match j, hj with
  | 0, hj =>
    simp [bL] at hj
    subst hj
    have := h.c i (.bool l[i]) (by simp [hi])
    simpa using this
theorem rowL_len (l : List Sv) (call : Int) : (rowL l call).length = l.length := by simp [rowL]

set_option maxRecDepth 100000 in
set_option maxHeartbeats 1000000 in
theorem by_any (l : List Sv) (g0 g1 g2 gn : Nat) (w : World) (ht : TabAt w l g0 g1 g2 gn) (h6 : l.length ≤ 6) :
    Calls Try.prog 7 #[.agg (tabV l.length g0 g1 g2 gn)] w fun e w' => e = .returned (.func (.func 12) #[] #[.pointer (some ⟨w.heap.size + 1, 0, none⟩)]) ∧ ByAt (w.heap.size + 1) (fun b => w.heap.size ≤ b ∨ b = g0 ∨ b = g1 ∨ b = g2) w' l ∧ Below w.heap.size w w' := by
  obtain ⟨i4, hi4, hz4, hs4, hb4⟩ := info_parts Try.info4
  obtain ⟨W, hW⟩ : ∃ W, (w.alloc (.cells (tabV l.length g0 g1 g2 gn) 34)).alloc (.cells #[.slice (some ⟨g0, 0, none⟩) l.length l.length, .slice (some ⟨g1, 0, none⟩) l.length l.length, .slice (some ⟨g2, 0, none⟩) l.length l.length] 31) = W := ⟨_, rfl⟩
  have hbw : Below w.heap.size w W := by rw [← hW]; exact ((Below.refl _ _).alloc (Nat.le_refl _) _).alloc (by simp) _
  have A0 : Hid (ByAt (w.heap.size + 1) (fun b => w.heap.size ≤ b ∨ b = g0 ∨ b = g1 ∨ b = g2) W l) := by
    refine ⟨fun j hj => ?_, fun j => by rw [← hW]; simp [go_sem], by rw [← hW]; simp⟩
    match j, hj with
    | 0, _ => exact ⟨_, _, by rw [← hW]; simp [go_sem]; rfl, (vat_rows ht.v0 (by rw [rowL_len]; exact h6)).below (Nat.le_refl _) hbw, fun b off e => by cases e; have := ht.v0.lt; exact ⟨by omega, .inr (.inl rfl)⟩⟩
    | 1, _ => exact ⟨_, _, by rw [← hW]; simp [go_sem]; rfl, (vat_rows ht.v1 (by rw [rowL_len]; exact h6)).below (Nat.le_refl _) hbw, fun b off e => by cases e; have := ht.v1.lt; exact ⟨by omega, .inr (.inr (.inl rfl))⟩⟩
    | 2, _ => exact ⟨_, _, by rw [← hW]; simp [go_sem]; rfl, (vat_rows ht.v2 (by rw [rowL_len]; exact h6)).below (Nat.le_refl _) hbw, fun b off e => by cases e; have := ht.v2.lt; exact ⟨by omega, .inr (.inr (.inr rfl))⟩⟩
  have B0 : Hid (Below w.heap.size w W) := hbw
  have HT : Hid (TabAt w l g0 g1 g2 gn) := ht
  have HS : Hid (w.heap.size + 1 < W.heap.size) := by rw [← hW, Hid]; simp
  unfold tabV at hW ⊢
  have HW : Hid (_ = W) := hW
  clear hbw ht hW
  go_enter Try.func7, Try.ntmps7
  go_wp2
  go_loopw [10] (fun i wr => ∃ k : Int, 0 ≤ k ∧ k ≤ 3 ∧ i = .int .i64 k ∧ Hid (ByAt (w.heap.size + 1) (fun b => w.heap.size ≤ b ∨ b = g0 ∨ b = g1 ∨ b = g2) wr l) ∧ Hid (Below w.heap.size w wr)) (fun i _ => (3 - intOf i).toNat)
  case atStart => exact ⟨0, by omega, by omega, rfl, by rw [HW.out]; exact A0, by rw [HW.out]; exact B0⟩
  case round =>
    clear A0 B0 HW HS
    obtain ⟨k, k0, k3, rfl, HA, HB⟩ := hrel
    have S : Hid (w.heap.size + 1 < wr.heap.size) := HA.out.s
    rcases (by omega : k = 0 ∨ k = 1 ∨ k = 2 ∨ k = 3) with rfl | rfl | rfl | rfl
    case inr.inr.inr =>
      go_wp2
      go_ret
      exact ⟨rfl, HA.out, HB.out⟩
    case inl =>
      have hix : (Instr.index 31 (.agg #[.slice (some ⟨g0, 0, none⟩) l.length l.length, .slice (some ⟨g1, 0, none⟩) l.length l.length, .slice (some ⟨g2, 0, none⟩) l.length l.length]) (.int .i64 0)).run Try.prog wr = .ok (.slice (some ⟨g0, 0, none⟩) l.length l.length) wr := by kernel_rfl
      have V : Hid (VAt wr g0 ((rowL l 1).map Value.bool)) := HT.out.v0.keep HB.out HT.out.v0.lt
      go_wp2_with (at_builtin; refine wpList_app_nil rfl (.const (.slice none 0 0)) (.tmp 15) 30 rfl (w.heap.size + 2) 4 i4 _ 1 1 Try.underlying30 hi4 hz4 hs4 hb4 rfl (by decide) rfl (some ⟨g0, 0, none⟩) l.length l.length ((rowL l 1).map Value.bool) rfl (fun e => by cases e) (by simp [rowL]) (fun ad e j u h => by cases e; rw [add_n, Nat.zero_add]; exact V.out.c j u h) (fun u h => by obtain ⟨b, -, rfl⟩ := List.mem_map.1 h; rfl) (by unfold maxLen; omega) (by omega) S.out ?_; intro ao1 c1 w1 own1 gr1; have bl : Below wr.heap.size wr w1 := (Below.refl _ _).grown gr1 (Nat.le_refl _) (fun j hj => by cases hj); have R1 : Hid (RowsAt bL 1 w1 ao1 (rowL l 1)) := bs_of own1 (rowL_len _ _) (by rw [rowL_len]; exact h6); have A1 : Hid (ByAt (w.heap.size + 1) (fun b => w.heap.size ≤ b ∨ b = g0 ∨ b = g1 ∨ b = g2) w1 l) := HA.out.keep bl; have B1 : Hid (Below w.heap.size w w1) := HB.out.trans (bl.mono (by have := S.out; omega)); have O1 : Hid (∀ b off, ao1 = some ⟨b, off, none⟩ → b ≠ w.heap.size + 1 ∧ (w.heap.size ≤ b ∨ b = g0 ∨ b = g1 ∨ b = g2)) := fun b off e => by { have e1 := own_ge own1 e; exact ⟨by omega, .inl (by omega)⟩ }; obtain ⟨_, _, q1, _, _⟩ := A1.out.c 0 (by omega); have q2 := A1.out.z 0; clear own1 gr1 bl)
      go_roundw
      case rel => exact ⟨1, by omega, by omega, rfl, A1.out.put (k := 0) (by omega) R1.out O1.out, B1.out.setCell (by simp) _⟩
      case measure => simp [intOf]
    case inr.inl =>
      have hix : (Instr.index 31 (.agg #[.slice (some ⟨g0, 0, none⟩) l.length l.length, .slice (some ⟨g1, 0, none⟩) l.length l.length, .slice (some ⟨g2, 0, none⟩) l.length l.length]) (.int .i64 1)).run Try.prog wr = .ok (.slice (some ⟨g1, 0, none⟩) l.length l.length) wr := by kernel_rfl
      have V : Hid (VAt wr g1 ((rowL l 2).map Value.bool)) := HT.out.v1.keep HB.out HT.out.v1.lt
      go_wp2_with (at_builtin; refine wpList_app_nil rfl (.const (.slice none 0 0)) (.tmp 15) 30 rfl (w.heap.size + 2) 4 i4 _ 1 1 Try.underlying30 hi4 hz4 hs4 hb4 rfl (by decide) rfl (some ⟨g1, 0, none⟩) l.length l.length ((rowL l 2).map Value.bool) rfl (fun e => by cases e) (by simp [rowL]) (fun ad e j u h => by cases e; rw [add_n, Nat.zero_add]; exact V.out.c j u h) (fun u h => by obtain ⟨b, -, rfl⟩ := List.mem_map.1 h; rfl) (by unfold maxLen; omega) (by omega) S.out ?_; intro ao1 c1 w1 own1 gr1; have bl : Below wr.heap.size wr w1 := (Below.refl _ _).grown gr1 (Nat.le_refl _) (fun j hj => by cases hj); have R1 : Hid (RowsAt bL 1 w1 ao1 (rowL l 2)) := bs_of own1 (rowL_len _ _) (by rw [rowL_len]; exact h6); have A1 : Hid (ByAt (w.heap.size + 1) (fun b => w.heap.size ≤ b ∨ b = g0 ∨ b = g1 ∨ b = g2) w1 l) := HA.out.keep bl; have B1 : Hid (Below w.heap.size w w1) := HB.out.trans (bl.mono (by have := S.out; omega)); have O1 : Hid (∀ b off, ao1 = some ⟨b, off, none⟩ → b ≠ w.heap.size + 1 ∧ (w.heap.size ≤ b ∨ b = g0 ∨ b = g1 ∨ b = g2)) := fun b off e => by { have e1 := own_ge own1 e; exact ⟨by omega, .inl (by omega)⟩ }; obtain ⟨_, _, q1, _, _⟩ := A1.out.c 1 (by omega); have q2 := A1.out.z 1; clear own1 gr1 bl)
      go_roundw
      case rel => exact ⟨2, by omega, by omega, rfl, A1.out.put (k := 1) (by omega) R1.out O1.out, B1.out.setCell (by simp) _⟩
      case measure => simp [intOf]
    case inr.inr.inl =>
      have hix : (Instr.index 31 (.agg #[.slice (some ⟨g0, 0, none⟩) l.length l.length, .slice (some ⟨g1, 0, none⟩) l.length l.length, .slice (some ⟨g2, 0, none⟩) l.length l.length]) (.int .i64 2)).run Try.prog wr = .ok (.slice (some ⟨g2, 0, none⟩) l.length l.length) wr := by kernel_rfl
      have V : Hid (VAt wr g2 ((rowL l 3).map Value.bool)) := HT.out.v2.keep HB.out HT.out.v2.lt
      go_wp2_with (at_builtin; refine wpList_app_nil rfl (.const (.slice none 0 0)) (.tmp 15) 30 rfl (w.heap.size + 2) 4 i4 _ 1 1 Try.underlying30 hi4 hz4 hs4 hb4 rfl (by decide) rfl (some ⟨g2, 0, none⟩) l.length l.length ((rowL l 3).map Value.bool) rfl (fun e => by cases e) (by simp [rowL]) (fun ad e j u h => by cases e; rw [add_n, Nat.zero_add]; exact V.out.c j u h) (fun u h => by obtain ⟨b, -, rfl⟩ := List.mem_map.1 h; rfl) (by unfold maxLen; omega) (by omega) S.out ?_; intro ao1 c1 w1 own1 gr1; have bl : Below wr.heap.size wr w1 := (Below.refl _ _).grown gr1 (Nat.le_refl _) (fun j hj => by cases hj); have R1 : Hid (RowsAt bL 1 w1 ao1 (rowL l 3)) := bs_of own1 (rowL_len _ _) (by rw [rowL_len]; exact h6); have A1 : Hid (ByAt (w.heap.size + 1) (fun b => w.heap.size ≤ b ∨ b = g0 ∨ b = g1 ∨ b = g2) w1 l) := HA.out.keep bl; have B1 : Hid (Below w.heap.size w w1) := HB.out.trans (bl.mono (by have := S.out; omega)); have O1 : Hid (∀ b off, ao1 = some ⟨b, off, none⟩ → b ≠ w.heap.size + 1 ∧ (w.heap.size ≤ b ∨ b = g0 ∨ b = g1 ∨ b = g2)) := fun b off e => by { have e1 := own_ge own1 e; exact ⟨by omega, .inl (by omega)⟩ }; obtain ⟨_, _, q1, _, _⟩ := A1.out.c 2 (by omega); have q2 := A1.out.z 2; clear own1 gr1 bl)
      go_roundw
      case rel => exact ⟨3, by omega, by omega, rfl, A1.out.put (k := 2) (by omega) R1.out O1.out, B1.out.setCell (by simp) _⟩
      case measure => simp [intOf]
end Go.Proofs.Ytbpmcabeghbalaa
