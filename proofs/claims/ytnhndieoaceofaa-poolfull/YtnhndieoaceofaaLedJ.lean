/- What package ledger's functions come to: Own, All, Last. -/
import Derived.Test.YtnhndieoaceofaaLedI
import Derived.Lib.QuietBelow
namespace Go.Proofs.Ytnhndieoaceofaa
open Go.RowKit

/-- 'append([]T(nil), xs...)', whatever xs: a row of the call's own. -/
theorem wpList_app_nil {P : Program} {w : World} {ops : Array Oper} {rest : List Oper} {o : Oper} {a : Act} {Q : Exit → Act → World → Prop} (hgd : o.guard = none) (s x : Operand) (t : TypeId)
    (ho : o.op = .call { callee := .builtin .append, args := #[s, x], argTypes := #[t, t] })
    (base : Nat) (e : TypeId) (i : TypeInfo) (z : Value) (size bytes : Nat) (ht : P.underlying t = some (.slice e)) (hi : P.info? e = some i) (hz : i.zero = some z)
    (hsize : i.size = size) (hby : i.bytes = bytes) (hzs : z.cells.size = size) (hsz : 0 < size) (hs : a.eval s = .slice none 0 0)
    (ao : Option Addr) (m c : Nat) (news : List Value) (hx : a.eval x = .slice ao m c) (hno : ao = none → m = 0 ∧ c = 0) (hl : news.length = m * size) (hnews : ∀ ad, ao = some ad → ∀ j u, news[j]? = some u → w.cell? (ad.add j) = some u) (h1 : ∀ u ∈ news, u.oneCell' = true)
    (h63 : m ≤ maxLen) (hbytes : m * bytes ≤ 140737488355328) (hbase : base ≤ w.heap.size)
    (h : ∀ ao' c' w', w'.ownsRow base e size (.slice ao' m c') m news → w.grownBy w' none → wpList P ops Q rest (a.put o.dst (.slice ao' m c')) w') : wpList P ops Q (o :: rest) a w := by
  cases ao with
  | none =>
    obtain ⟨rfl, rfl⟩ := hno rfl
    obtain rfl : news = [] := List.eq_nil_of_length_eq_zero (by simpa using hl)
    exact wpList_append_own_none hgd s x t ho base e i size ht hi _ 0 [] hs (World.ownsRow_nil _ _ _ _) hx (h none 0 w (World.ownsRow_nil _ _ _ _) ⟨rfl, rfl, rfl, Nat.le_refl _, fun _ _ _ => rfl⟩)
  | some ad =>
    refine wpList_append_own w hgd s x t ho base e i z size bytes ht hi hz hsize hby hzs hsz _ 0 [] hs (World.ownsRow_nil _ _ _ _) ad m c news hx hl (hnews ad rfl) h1 (by simpa using h63) (by simpa using hbytes) hbase ?_
    intro v' w' ho' hg _
    have ho2 : w'.ownsRow base e size v' m news := by simpa using ho'
    rcases ho2.2 with ⟨rfl, h0⟩ | ⟨g, cap, cur, hv, _⟩
    · subst h0; exact h none 0 w' ho2 hg
    · subst hv; exact h _ _ w' ho2 hg

set_option maxRecDepth 100000 in
set_option maxHeartbeats 1000000 in
theorem own_owns (l : Lg) (v : Value) (w : World) (hl : LgAt w v l) (hr : l.holds.length * 24 ≤ 140737488355328) :
    Calls Try.prog 16 #[v] w fun e w' => ∃ ao c, e = .returned (lgV l ao c) ∧ w'.ownsRow (w.heap.size + 2) 52 3 (.slice ao l.holds.length c) l.holds.length (hocells l.holds) ∧ Below w.heap.size w w' := by
  obtain ⟨ao, c, rfl, a1, n1, _⟩ := hl
  unfold lgV
  have hsm := a1.small
  obtain ⟨i27, hi27, hz27, hs27, hb27⟩ := info_parts Try.info27
  have HR : Hid (l.holds.length * 24 ≤ 140737488355328) := hr
  have HZ : Hid (ao = none → l.holds.length = 0 ∧ c = 0) := fun h => ⟨holds_zero a1 h, n1 h⟩
  have HS : Hid (l.holds.length ≤ maxLen) := hsm
  have hbel : Below (w.heap.size + 2) ((w.alloc (.cells #[.slice ao l.holds.length c, .int .i64 l.m0, .int .i64 l.m1, .int .i64 l.m2, .int .i64 l.m3] 25)).alloc (.cells #[.slice none 0 0, .int .i64 0, .int .i64 0, .int .i64 0, .int .i64 0] 25)) ((w.alloc (.cells #[.slice ao l.holds.length c, .int .i64 l.m0, .int .i64 l.m1, .int .i64 l.m2, .int .i64 l.m3] 25)).alloc (.cells #[.slice none 0 0, .int .i64 0, .int .i64 0, .int .i64 0, .int .i64 0] 25)) := Below.refl _ _
  have hbw : Below w.heap.size w ((w.alloc (.cells #[.slice ao l.holds.length c, .int .i64 l.m0, .int .i64 l.m1, .int .i64 l.m2, .int .i64 l.m3] 25)).alloc (.cells #[.slice none 0 0, .int .i64 0, .int .i64 0, .int .i64 0, .int .i64 0] 25)) := ((Below.refl _ _).alloc (Nat.le_refl _) _).alloc (by simp) _
  have HA : Hid (HoldsAt ((w.alloc (.cells #[.slice ao l.holds.length c, .int .i64 l.m0, .int .i64 l.m1, .int .i64 l.m2, .int .i64 l.m3] 25)).alloc (.cells #[.slice none 0 0, .int .i64 0, .int .i64 0, .int .i64 0, .int .i64 0] 25)) ao l.holds) := a1.below (Nat.le_refl _) hbw
  have HBW : Hid (Below _ _ _) := hbw
  clear hr n1 hsm hbw a1
  go_enter Try.func16, Try.ntmps16
  go_wp2_with (at_builtin; refine wpList_app_nil rfl (.const (.slice none 0 0)) (.tmp 4) 22 rfl (w.heap.size + 2) 52 i27 _ 3 24 Try.underlying22 hi27 hz27 hs27 hb27 rfl (by decide) rfl ao l.holds.length c (hocells l.holds) rfl HZ.out (hocells_length _) HA.out.news (hocells_one _) HS.out HR.out (by simp) ?_; intro ao1 c1 w1 own1 gr1; have bl1 := hbel.grown gr1 (by simp) (fun j hj => by cases hj); obtain ⟨bc1, bf1, zc1, zf1⟩ := boxes bl1; have s1 := gr1.size; simp at s1; have y0 : w.heap.size < w1.heap.size := (by omega); have y1 : w.heap.size + 1 < w1.heap.size := (by omega))
  refine bodyPost_ret (v := .agg #[.slice ao1 l.holds.length c1, .int .i64 l.m0, .int .i64 l.m1, .int .i64 l.m2, .int .i64 l.m3]) (by simp [results, Try.results16, go_sem, zc1]) rfl ⟨ao1, c1, rfl, ?_, ?_⟩
  · iterate 6 (refine ownsRow_setCell_below ?_ (by simp) _)
    exact own1
  · iterate 6 (refine Below.setCell ?_ (by simp) _)
    exact HBW.out.trans (bl1.mono (by omega))
theorem lgNew_of {w : World} {base : Nat} {l : Lg} {ao : Option Addr} {c : Nat} (h : w.ownsRow (base + 2) 52 3 (.slice ao l.holds.length c) l.holds.length (hocells l.holds)) (hsm : l.holds.length ≤ maxLen) : LgNew base w (lgV l ao c) l :=
  ⟨ao, c, rfl, holdsAt_of_owns h rfl hsm, (owns_cap h).1, (owns_cap h).2.1, (owns_cap h).2.2, fresh_of_owns h (by omega) _⟩
theorem own_any (l : Lg) (v : Value) (w : World) (hl : LgAt w v l) (hr : l.holds.length * 24 ≤ 140737488355328) : Calls Try.prog 16 #[v] w fun e w' => ∃ v', e = .returned v' ∧ LgNew w.heap.size w' v' l ∧ Below w.heap.size w w' := by
  have hsm : l.holds.length ≤ maxLen := by obtain ⟨_, _, _, h, _⟩ := hl; exact h.small
  refine (own_owns l v w hl hr).mono ?_
  rintro e w' ⟨ao, c, rfl, h1, h2⟩
  exact ⟨_, rfl, lgNew_of h1 hsm, h2⟩

theorem mineL_back (id : Int) (hs : List Ho) (k : Nat) (hk : k < hs.length) : mineL id (hs.drop k) = mineL id (hs.drop (k + 1)) ++ if (hs[k].id == id) = true then [hs[k]] else [] := by
  rw [List.drop_eq_getElem_cons hk]
  show mineL id ([hs[k]] ++ hs.drop (k + 1)) = _
  rw [mineL_append]
  have : mineL id ([] ++ [hs[k]]) = _ := mineL_snoc id [] hs[k]
  rw [List.nil_append] at this
  rw [this]
  rfl

end Go.Proofs.Ytnhndieoaceofaa
