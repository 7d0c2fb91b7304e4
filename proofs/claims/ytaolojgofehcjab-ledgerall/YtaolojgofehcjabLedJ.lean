/- What package ledger's functions come to: Own, All, Last. -/
import Derived.Test.YtaolojgofehcjabLedI
import Derived.Lib.QuietBelow
namespace Go.Proofs.Ytaolojgofehcjab
open Go.RowKit

/-- 'append([]T(nil), xs...)', whatever xs: a row of the call's own. -/
theorem wpList_app_nil {P : Program} {w : World} {ops : Array Oper} {rest : List Oper} {o : Oper} {a : Act} {Q : Exit → Act → World → Prop} (hgd : o.guard = none) (s x : Operand) (t : TypeId)
    (ho : o.op = .call { callee := .builtin .append, args := #[s, x], argTypes := #[t, t] })
    (base : Nat) (e : TypeId) (i : TypeInfo) (z : Value) (size bytes : Nat) (ht : P.underlying t = some (.slice e)) (hi : P.info? e = some i) (hz : i.zero = some z)
    (hsize : i.size = size) (hby : i.bytes = bytes) (hzs : z.cells.size = size) (hsz : 0 < size) (hs : a.eval s = .slice none 0 0)
    (ao : Option Addr) (m c : Nat) (news : List Value) (hx : a.eval x = .slice ao m c) (hno : ao = none → m = 0 ∧ c = 0) (hl : news.length = m * size) (hnews : ∀ ad, ao = some ad → ∀ j u, news[j]? = some u → w.cell? (ad.add j) = some u) (h1 : ∀ u ∈ news, u.oneCell' = true)
    (h63 : m ≤ maxLen) (hbytes : m * bytes ≤ 140737488355328) (hbase : base ≤ w.heap.size)
    (h : ∀ ao' c' w', w'.ownsRow base e size (.slice ao' m c') m news → w.grownBy w' none → wpList P ops Q rest (a.put o.dst (.slice ao' m c')) w') : wpList P ops Q (o :: rest) a w := by
  cases ao with
  | none =>
    obtain ⟨rfl, rfl⟩ := hno rfl
    obtain rfl : news = [] := List.eq_nil_of_length_eq_zero (by simpa using hl)
    exact wpList_append_own_none hgd s x t ho base e i size ht hi _ 0 [] hs (World.ownsRow_nil _ _ _ _) hx (h none 0 w (World.ownsRow_nil _ _ _ _) ⟨rfl, rfl, rfl, Nat.le_refl _, fun _ _ _ => rfl⟩)
  | some ad =>
    refine wpList_append_own w hgd s x t ho base e i z size bytes ht hi hz hsize hby hzs hsz _ 0 [] hs (World.ownsRow_nil _ _ _ _) ad m c news hx hl (hnews ad rfl) h1 (by simpa using h63) (by simpa using hbytes) hbase ?_
    intro v' w' ho' hg _
    have ho2 : w'.ownsRow base e size v' m news := by simpa using ho'
    rcases ho2.2 with ⟨rfl, h0⟩ | ⟨g, cap, cur, hv, _⟩
    · subst h0; exact h none 0 w' ho2 hg
    · subst hv; exact h _ _ w' ho2 hg

set_option maxRecDepth 100000 in
set_option maxHeartbeats 1000000 in
theorem own_owns (l : Lg) (v : Value) (w : World) (hl : LgAt w v l) (hr : l.holds.length * 24 ≤ 140737488355328) :
    Calls Try.prog 15 #[v] w fun e w' => ∃ ao c, e = .returned (lgV l ao c) ∧ w'.ownsRow (w.heap.size + 2) 31 3 (.slice ao l.holds.length c) l.holds.length (hocells l.holds) ∧ Below w.heap.size w w' := by
  obtain ⟨ao, c, rfl, a1, n1, _⟩ := hl
  unfold lgV
  have hsm := a1.small
  obtain ⟨i27, hi27, hz27, hs27, hb27⟩ := info_parts Try.info27
  have HR : Hid (l.holds.length * 24 ≤ 140737488355328) := hr
  have HZ : Hid (ao = none → l.holds.length = 0 ∧ c = 0) := fun h => ⟨holds_zero a1 h, n1 h⟩
  have HS : Hid (l.holds.length ≤ maxLen) := hsm
  have hbel : Below (w.heap.size + 2) ((w.alloc (.cells #[.slice ao l.holds.length c, .int .i64 l.m0, .int .i64 l.m1, .int .i64 l.m2, .int .i64 l.m3] 25)).alloc (.cells #[.slice none 0 0, .int .i64 0, .int .i64 0, .int .i64 0, .int .i64 0] 25)) ((w.alloc (.cells #[.slice ao l.holds.length c, .int .i64 l.m0, .int .i64 l.m1, .int .i64 l.m2, .int .i64 l.m3] 25)).alloc (.cells #[.slice none 0 0, .int .i64 0, .int .i64 0, .int .i64 0, .int .i64 0] 25)) := Below.refl _ _
  have hbw : Below w.heap.size w ((w.alloc (.cells #[.slice ao l.holds.length c, .int .i64 l.m0, .int .i64 l.m1, .int .i64 l.m2, .int .i64 l.m3] 25)).alloc (.cells #[.slice none 0 0, .int .i64 0, .int .i64 0, .int .i64 0, .int .i64 0] 25)) := ((Below.refl _ _).alloc (Nat.le_refl _) _).alloc (by simp) _
  have HA : Hid (HoldsAt ((w.alloc (.cells #[.slice ao l.holds.length c, .int .i64 l.m0, .int .i64 l.m1, .int .i64 l.m2, .int .i64 l.m3] 25)).alloc (.cells #[.slice none 0 0, .int .i64 0, .int .i64 0, .int .i64 0, .int .i64 0] 25)) ao l.holds) := a1.below (Nat.le_refl _) hbw
  have HBW : Hid (Below _ _ _) := hbw
  clear hr n1 hsm hbw a1
  go_enter Try.func15, Try.ntmps15
  go_wp2_with (at_builtin; refine wpList_app_nil rfl (.const (.slice none 0 0)) (.tmp 4) 22 rfl (w.heap.size + 2) 31 i27 _ 3 24 Try.underlying22 hi27 hz27 hs27 hb27 rfl (by decide) rfl ao l.holds.length c (hocells l.holds) rfl HZ.out (hocells_length _) HA.out.news (hocells_one _) HS.out HR.out (by simp) ?_; intro ao1 c1 w1 own1 gr1; have bl1 := hbel.grown gr1 (by simp) (fun j hj => by cases hj); obtain ⟨bc1, bf1, zc1, zf1⟩ := boxes bl1; have s1 := gr1.size; simp at s1; have y0 : w.heap.size < w1.heap.size := (by omega); have y1 : w.heap.size + 1 < w1.heap.size := (by omega))
  refine bodyPost_ret (v := .agg #[.slice ao1 l.holds.length c1, .int .i64 l.m0, .int .i64 l.m1, .int .i64 l.m2, .int .i64 l.m3]) (by simp [results, Try.results15, go_sem, zc1]) rfl ⟨ao1, c1, rfl, ?_, ?_⟩
  · iterate 6 (refine ownsRow_setCell_below ?_ (by simp) _)
    exact own1
  · iterate 6 (refine Below.setCell ?_ (by simp) _)
    exact HBW.out.trans (bl1.mono (by omega))
theorem lgNew_of {w : World} {base : Nat} {l : Lg} {ao : Option Addr} {c : Nat} (h : w.ownsRow (base + 2) 31 3 (.slice ao l.holds.length c) l.holds.length (hocells l.holds)) (hsm : l.holds.length ≤ maxLen) : LgNew base w (lgV l ao c) l :=
  ⟨ao, c, rfl, holdsAt_of_owns h rfl hsm, (owns_cap h).1, (owns_cap h).2.1, (owns_cap h).2.2, fresh_of_owns h (by omega) _⟩
theorem own_any (l : Lg) (v : Value) (w : World) (hl : LgAt w v l) (hr : l.holds.length * 24 ≤ 140737488355328) : Calls Try.prog 15 #[v] w fun e w' => ∃ v', e = .returned v' ∧ LgNew w.heap.size w' v' l ∧ Below w.heap.size w w' := by
  have hsm : l.holds.length ≤ maxLen := by obtain ⟨_, _, _, h, _⟩ := hl; exact h.small
  refine (own_owns l v w hl hr).mono ?_
  rintro e w' ⟨ao, c, rfl, h1, h2⟩
  exact ⟨_, rfl, lgNew_of h1 hsm, h2⟩

theorem mineL_back (id : Int) (hs : List Ho) (k : Nat) (hk : k < hs.length) : mineL id (hs.drop k) = mineL id (hs.drop (k + 1)) ++ if (hs[k].id == id) = true then [hs[k]] else [] := by
  rw [List.drop_eq_getElem_cons hk]
  show mineL id ([hs[k]] ++ hs.drop (k + 1)) = _
  rw [mineL_append]
  have : mineL id ([] ++ [hs[k]]) = _ := mineL_snoc id [] hs[k]
  rw [List.nil_append] at this
  rw [this]
  rfl

set_option maxRecDepth 100000 in
set_option maxHeartbeats 1000000 in
theorem all_any (l : Lg) (v : Value) (id : Int) (w : World) (hl : LgAt w v l) (hr : l.holds.length * 24 ≤ 140737488355328) :
    Calls Try.prog 11 #[v, .int .i64 id] w fun e w' => ∃ ao c, e = .returned (.slice ao (mineL id l.holds).length c) ∧ HoldsAt w' ao (mineL id l.holds) ∧ Fresh w.heap.size ao (mineL id l.holds) ∧ Below w.heap.size w w' := by
  obtain ⟨ao, c, rfl, a1, _⟩ := hl
  unfold lgV
  have hsm := a1.small
  obtain ⟨i27, hi27, hz27, hs27, hb27⟩ := info_parts Try.info27
  have HR : Hid (l.holds.length * 24 ≤ 140737488355328) := hr
  have HS : Hid (l.holds.length ≤ maxLen) := hsm
  clear hr
  unfold maxLen at hsm
  go_enter Try.func11, Try.ntmps11
  go_wp2
  go_loopw [6, 5] (fun i o wr => ∃ (k : Nat) (ms : List Ho) (mo : Option Addr) (mc : Nat), k ≤ l.holds.length ∧ i = .int .i64 ((k : Int) - 1) ∧ o = .slice mo ms.length mc ∧ Below (w.heap.size + 1) (w.alloc (.cells #[.slice ao l.holds.length c, .int .i64 l.m0, .int .i64 l.m1, .int .i64 l.m2, .int .i64 l.m3] 25)) wr ∧ wr.ownsRow (w.heap.size + 1) 31 3 (.slice mo ms.length mc) ms.length (hocells ms) ∧ Hid (mineL id (l.holds.drop k) = ms)) (fun i _ _ => (intOf i + 1).toNat)
  case atStart => exact ⟨l.holds.length, [], none, 0, by omega, by go_num, rfl, Below.refl _ _, World.ownsRow_nil _ _ _ _, by show _ = _; rw [List.drop_eq_nil_of_le (Nat.le_refl _)]; rfl⟩
  case round =>
    obtain ⟨k, ms, mo, mc, hk, rfl, rfl, hbel, hown, HM⟩ := hrel
    have bw : Below w.heap.size w wr := ((Below.refl _ _).alloc (Nat.le_refl _) _).trans (hbel.mono (by omega))
    have hsz := hbel.size
    simp at hsz
    have bx := fun j => hbel.cell (p := ⟨w.heap.size, j, none⟩) (by show w.heap.size < _; omega)
    cases k with
    | zero =>
      have HM2 : Hid (mineL id l.holds = ms) := by have := HM.out; rw [List.drop_zero] at this; exact this
      have HLN : Hid (ms.length ≤ maxLen) := by have h := mineL_len id l.holds; rw [HM2.out] at h; exact Nat.le_trans h HS.out
      have e0 : ((0 : Nat) : Int) - 1 = -1 := by omega
      rw [e0]
      go_wp2
      go_ret
      rw [HM2.out]
      exact ⟨mo, mc, rfl, holdsAt_of_owns hown rfl HLN.out, fresh_of_owns hown (by omega) _, bw⟩
    | succ k =>
      have hlt : k < l.holds.length := by omega
      obtain ⟨b, off, rfl, hb, c0, c1, c2⟩ := a1.lies k hlt
      have hlt' : (k : Int) < (l.holds.length : Int) := by omega
      have ek : ((k + 1 : Nat) : Int) - 1 = (k : Int) := by omega
      have k0 : (0 : Int) ≤ (k : Int) := by omega
      have eb := fun j => bw.cell (p := ⟨b, j, none⟩) hb
      rw [← eb] at c0 c1 c2
      have HSt : Hid (mineL id (l.holds.drop k) = ms ++ if (l.holds[k].id == id) = true then [l.holds[k]] else []) := by show _ = _; rw [mineL_back id l.holds k hlt, HM.out]
      have hml : ms.length + 1 ≤ l.holds.length := by
        have h := mineL_len id (l.holds.drop (k + 1))
        rw [HM.out, List.length_drop] at h
        omega
      clear eb
      rw [ek]
      cases e : (l.holds[k].id == id) with
      | false =>
        go_wp2
        go_roundw
        case rel => exact ⟨k, ms, mo, mc, by omega, by go_num, rfl, hbel, hown, by show _ = _; rw [HSt.out, e]; simp⟩
        case measure => first | (simp [intOf]; done) | (simp [intOf]; omega)
      | true =>
        have HRR : Hid ((ms.length + 1) * 24 ≤ 140737488355328) := by have := HR.out; show _ ≤ _; omega
        have H63 : Hid (ms.length + 1 ≤ maxLen) := by have := HS.out; show _ ≤ _; omega
        have NW := World.news_of_block (cs := #[.int .i64 l.holds[k].id, .int .i64 l.holds[k].kind, .int .i64 l.holds[k].filter]) (heap_alloc_new wr (.cells #[.int .i64 l.holds[k].id, .int .i64 l.holds[k].kind, .int .i64 l.holds[k].filter] 31))
        have HML : Hid (ms.length + 1 ≤ l.holds.length) := hml
        clear hml
        go_wp2_with (at_builtin; refine wpList_append_lies _ rfl (.tmp 23) (.tmp 29) 22 rfl (w.heap.size + 1) 31 i27 _ 3 24 Try.underlying22 hi27 hz27 hs27 hb27 rfl (by decide) _ ms.length (hocells ms) rfl (hown.alloc _) ⟨wr.heap.size, 0, none⟩ 1 1 [.int .i64 l.holds[k].id, .int .i64 l.holds[k].kind, .int .i64 l.holds[k].filter] rfl rfl NW (hocells_one [l.holds[k]]) (by decide) H63.out HRR.out (by simp; omega) (wr.heap.size + 1) (by simp) ?_; intro g cap w2 own2 gr2 _ _; have bl2 := (hbel.alloc (by omega) _).grown gr2 (by first | (simp; done) | (simp; omega)) (fun j hj => (hown.lt j hj).1))
        go_roundw
        case rel => exact ⟨k, ms ++ [l.holds[k]], some ⟨g, 0, none⟩, cap, by omega, by go_num, by simp, bl2, by rw [hocells_append, List.length_append]; exact own2, by show _ = _; rw [HSt.out, e]; rfl⟩
        case measure => first | (simp [intOf]; done) | (simp [intOf]; omega)
end Go.Proofs.Ytaolojgofehcjab
