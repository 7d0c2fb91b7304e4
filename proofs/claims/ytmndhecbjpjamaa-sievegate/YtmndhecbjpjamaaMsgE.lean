/- Walks of Set. -/
import Derived.Test.YtmndhecbjpjamaaMsgD
namespace Go.Proofs.Ytmndhecbjpjamaa
open Go.RowKit

theorem owns_below {w w' : World} {base : Nat} {e : TypeId} {size : Nat} {v : Value} {n : Nat} {xs : List Value} (h : w.ownsRow base e size v n xs) (hb : Below w.heap.size w w') : w'.ownsRow base e size v n xs := by
  refine ⟨h.1, ?_⟩
  rcases h.2 with h2 | ⟨g, cap, cur, hv, hg, hh, r⟩
  · exact .inl h2
  · have hlt := (h.lt g (by rw [hv]; rfl)).2
    exact .inr ⟨g, cap, cur, hv, hg, by rw [hb.block g hlt]; exact hh, r⟩
theorem owns_setCell_ne {w : World} {base : Nat} {e : TypeId} {size : Nat} {v : Value} {n : Nat} {xs : List Value} (h : w.ownsRow base e size v n xs) {a : Addr} (ha : v.ownBlock ≠ some a.block) (u : Value) : (w.setCell a u).ownsRow base e size v n xs := by
  refine ⟨h.1, ?_⟩
  rcases h.2 with h2 | ⟨g, cap, cur, hv, hg, hh, r⟩
  · exact .inl h2
  · refine .inr ⟨g, cap, cur, hv, hg, ?_, r⟩
    rw [Below.heap_setCell _ _ _ _ (fun e => ha (by rw [hv, ← e]; rfl))]; exact hh

/-- What Set makes of heads. -/
def setH (key text : ByteArray) : List Hd → List Hd
  | [] => []
  | h :: t => if h.1 = key then (h.1, text) :: t else h :: setH key text t
def setHs (key text : ByteArray) (hs : List Hd) : List Hd :=
  if getB key hs then setH key text hs else if hs.length < 6 then hs ++ [(key, text)] else hs
def setM (m : Ms) (key text : ByteArray) : Ms := { m with heads := setHs key text m.heads }

theorem setH_at {key text : ByteArray} : ∀ {hs : List Hd} (k : Nat) (hk : k < hs.length), hs[k].1 = key → (∀ i (h : i < hs.length), i < k → hs[i].1 ≠ key) → setH key text hs = hs.set k (hs[k].1, text)
  | [], _, hk, _, _ => absurd hk (by simp)
  | h :: t, 0, _, he, _ => by
    have h0 : h.1 = key := he
    simp [setH, h0]
  | h :: t, k + 1, hk, he, H => by
    have h0 : h.1 ≠ key := H 0 (by simp) (by omega)
    have ht := setH_at (key := key) (text := text) (hs := t) k (by simpa using hk) (by simpa using he) fun i hi hik => H (i + 1) (by simpa using hi) (by omega)
    simp [setH, h0, ht]
theorem hcells_set : ∀ (hs : List Hd) (k : Nat) (hk : k < hs.length) (text : ByteArray), hcells (hs.set k (hs[k].1, text)) = (hcells hs).set (k * 2 + 1) (.string text)
  | [], _, hk, _ => absurd hk (by simp)
  | h :: t, 0, _, _ => by simp [hcells]
  | h :: t, k + 1, hk, text => by
    rw [show (k + 1) * 2 + 1 = (k * 2 + 1) + 1 + 1 by omega]
    simp [hcells, hcells_set t k (by simpa using hk) text]
theorem hcells_append : ∀ (a b : List Hd), hcells (a ++ b) = hcells a ++ hcells b
  | [], _ => rfl
  | h :: t, b => by simp [hcells, hcells_append t b]

theorem owns_ms_below {w w' : World} {base c d : Nat} {ao bo : Option Addr} {m : Ms} (h : OwnsMs base w ao c bo d m) (hb : Below w.heap.size w w') : OwnsMs base w' ao c bo d m :=
  ⟨owns_below h.heads hb, owns_below h.body hb, h.apart⟩
theorem owns_ms_set {w : World} {base c d : Nat} {ao bo : Option Addr} {m : Ms} (h : OwnsMs base w ao c bo d m) {a : Addr} (ha : a.block < base) (u : Value) : OwnsMs base (w.setCell a u) ao c bo d m :=
  ⟨ownsRow_setCell_below h.heads ha u, ownsRow_setCell_below h.body ha u, h.apart⟩
/-- An owned message is one that lies there. -/
theorem msAt_of_owns {w : World} {base c d : Nat} {ao bo : Option Addr} {m : Ms} (h : OwnsMs base w ao c bo d m) (hp : m.path.size ≤ maxLen) (hr : m.heads.length * 32 ≤ 140737488351232 ∧ m.body.size ≤ 140737488351232)
    (h1 : m.heads.length ≤ maxLen) (h2 : ∀ h ∈ m.heads, h.1.size ≤ maxLen ∧ h.2.size ≤ maxLen) (h3 : m.body.size ≤ maxLen) : MsAt w (.agg #[.int .i64 m.st, .string m.path, .slice ao m.heads.length c, .slice bo m.body.size d]) m := by
  have hcap : m.heads.length ≤ c ∧ c ≤ maxLen := by
    rcases h.heads.2 with ⟨hv, h0⟩ | ⟨g, cap, cur, hv, _, _, h5, h6, _⟩
    · simp only [Value.slice.injEq] at hv; rw [h0, hv.2.2]; unfold maxLen; omega
    · simp only [Value.slice.injEq, true_and] at hv; rw [hv.2]; exact ⟨h5, h6⟩
  refine ⟨⟨ao, c, bo, d, rfl, headsAt_of_owns h.heads h1 h2, bytesAt_of_owns h.body h3, ?_, ?_, hcap⟩, hp, hr⟩
  · intro e
    rcases h.heads.2 with ⟨hv, _⟩ | ⟨g, cap, cur, hv, _⟩
    · simp at hv; exact hv.2.2
    · simp [e] at hv
  · intro e
    rcases h.body.2 with ⟨hv, _⟩ | ⟨g, cap, cur, hv, _⟩
    · simp at hv; exact hv.2.2
    · simp [e] at hv

theorem pair_new (w : World) (a b : Value) (t : TypeId) : ∀ j u, [a, b][j]? = some u → (w.alloc (.cells #[a, b] t)).cell? ((⟨w.heap.size, 0, none⟩ : Addr).add j) = some u :=
  World.news_of_block (cs := #[a, b]) (t := t) (fr := (0, 0)) (by show (w.heap.push _)[w.heap.size]? = _; rw [Array.getElem?_push, if_pos rfl])

/-- Blocks of the call's own below a row that has grown. -/
theorem far2 {w2 w3 : World} {o : Obj} {H : Nat} {row : Option Nat} (gr : (w2.alloc o).grownBy w3 row) (hrow : ∀ k, row = some k → H + 2 ≤ k) (hs : H + 2 ≤ w2.heap.size) : Below (H + 2) w2 w3 :=
  ⟨gr.os, gr.tape, gr.output, Nat.le_trans (by simp) gr.size, fun k hk => (gr.block k (by simp; omega) (fun e => by have := hrow k e.symm; omega)).trans (Below.heap_alloc _ _ _ (by omega))⟩

/-- A message's value whose lists lie from a block on. -/
def From (base : Nat) (v : Value) : Prop := ∃ x y ao n c bo k d, v = .agg #[x, y, .slice ao n c, .slice bo k d] ∧ (∀ a, ao = some a → base ≤ a.block) ∧ (∀ a, bo = some a → base ≤ a.block)
theorem From.mono {a b : Nat} {v : Value} (h : From b v) (hab : a ≤ b) : From a v := by
  obtain ⟨x, y, ao, n, c, bo, k, d, e, f1, f2⟩ := h
  exact ⟨x, y, ao, n, c, bo, k, d, e, fun p hp => Nat.le_trans hab (f1 p hp), fun p hp => Nat.le_trans hab (f2 p hp)⟩
theorem from_row {w : World} {base n c : Nat} {e : TypeId} {size : Nat} {ao : Option Addr} {xs : List Value} (h : w.ownsRow base e size (.slice ao n c) n xs) : ∀ a, ao = some a → base ≤ a.block := by
  intro a ha
  subst ha
  rcases h.2 with ⟨hv, _⟩ | ⟨g, cap, cur, hv, hg, _⟩
  · simp at hv
  · simp only [Value.slice.injEq, Option.some.injEq] at hv
    rw [hv.1]; exact hg
theorem from_owns {w : World} {base c d : Nat} {x y : Value} {ao bo : Option Addr} {m : Ms} (h : OwnsMs base w ao c bo d m) : From base (.agg #[x, y, .slice ao m.heads.length c, .slice bo m.body.size d]) :=
  ⟨x, y, ao, _, c, bo, _, d, rfl, from_row h.heads, from_row h.body⟩

/-- The two blocks that Set lays first, as they stand behind Own and find. -/
structure SetMid (w w2 : World) (ao : Option Addr) (c : Nat) (bo : Option Addr) (d : Nat) (m : Ms) : Prop where
  f0 : w2.cell? ⟨w.heap.size, 0, none⟩ = some (.int .i64 m.st)
  f1 : w2.cell? ⟨w.heap.size, 1, none⟩ = some (.string m.path)
  f2 : w2.cell? ⟨w.heap.size, 2, none⟩ = some (.slice ao m.heads.length c)
  f3 : w2.cell? ⟨w.heap.size, 3, none⟩ = some (.slice bo m.body.size d)
  g : ∀ j, w2.frozen? ⟨w.heap.size, j, none⟩ = false
  r0 : w2.cell? ⟨w.heap.size + 1, 0, none⟩ = some (.int .i64 0)
  r1 : w2.cell? ⟨w.heap.size + 1, 1, none⟩ = some (.string ByteArray.empty)
  r2 : w2.cell? ⟨w.heap.size + 1, 2, none⟩ = some (.slice none 0 0)
  r3 : w2.cell? ⟨w.heap.size + 1, 3, none⟩ = some (.slice none 0 0)
  rg : ∀ j, w2.frozen? ⟨w.heap.size + 1, j, none⟩ = false
  ow : OwnsMs (w.heap.size + 2) w2 ao c bo d m
  bl : Below w.heap.size w w2
  sz : w.heap.size + 2 ≤ w2.heap.size

set_option maxRecDepth 100000 in
set_option maxHeartbeats 1000000 in
theorem set_any (m : Ms) (key text : ByteArray) (v : Value) (w : World) (hm : MsAt w v m) (hkey : key.size ≤ maxLen) (ht : text.size ≤ maxLen) :
    Calls Try.prog 50 #[v, .string key, .string text] w fun e w' => ∃ v', e = .returned v' ∧ MsAt w' v' (setM m key text) ∧ From w.heap.size v' ∧ Below w.heap.size w w' := by
  have hbw : ∀ o o' : Obj, Below w.heap.size w ((w.alloc o).alloc o') := fun o o' => ((Below.refl _ _).alloc (Nat.le_refl _) _).alloc (by simp) _
  have hm' := fun o o' => hm.below (Nat.le_refl _) (hbw o o')
  have HM : Hid (MsAt w v m) := hm
  obtain ⟨⟨ao0, c0, bo0, d0, rfl, a1, a2, n1, n2, n3, n4⟩, hp, R⟩ := hm
  have HS : Hid (m.heads.length ≤ maxLen ∧ (∀ h ∈ m.heads, h.1.size ≤ maxLen ∧ h.2.size ≤ maxLen) ∧ m.body.size ≤ maxLen) := ⟨a1.small, a1.size, a2.small⟩
  have HR : Hid (m.heads.length * 32 ≤ 140737488351232 ∧ m.body.size ≤ 140737488351232) := R
  clear n1 n2 n3 n4 R a1 a2
  go_enter Try.func50, Try.ntmps50
  go_wp2_with fail
  refine (own_any m _ _ (hm' _ _)).mono ?_
  rintro e w1 ⟨ao, c, bo, d, rfl, ow, bl⟩
  have bl2 : Below (w.heap.size + 2) _ w1 := bl.mono (by simp)
  obtain ⟨hc1, hf1, hd1, he1⟩ := box2 bl2
  have hs1 := bl2.size
  simp at hs1
  go_wp2_with fail
  have owA : OwnsMs (w.heap.size + 2) ((((w1.setCell ⟨w.heap.size, 0, none⟩ (Value.int IntKind.i64 m.st)).setCell ⟨w.heap.size, 1, none⟩ (Value.string m.path)).setCell ⟨w.heap.size, 2, none⟩ (Value.slice ao m.heads.length c)).setCell ⟨w.heap.size, 3, none⟩ (Value.slice bo m.body.size d)) ao c bo d m := by
    repeat (refine owns_ms_set ?_ (by simp) _)
    have hsz : ((w.alloc (Obj.cells #[Value.int IntKind.i64 m.st, Value.string m.path, Value.slice ao0 m.heads.length c0, Value.slice bo0 m.body.size d0] 27)).alloc (Obj.cells #[Value.int IntKind.i64 0, Value.string { data := #[] }, Value.slice none 0 0, Value.slice none 0 0] 27)).heap.size = w.heap.size + 2 := by simp
    rw [hsz] at ow
    exact ow
  have blA : Below w.heap.size w ((((w1.setCell ⟨w.heap.size, 0, none⟩ (Value.int IntKind.i64 m.st)).setCell ⟨w.heap.size, 1, none⟩ (Value.string m.path)).setCell ⟨w.heap.size, 2, none⟩ (Value.slice ao m.heads.length c)).setCell ⟨w.heap.size, 3, none⟩ (Value.slice bo m.body.size d)) := by
    repeat (refine Below.setCell ?_ (by simp) _)
    exact (hbw _ _).trans (bl2.mono (by omega))
  refine (find_any m.heads key ao c _ (headsAt_of_owns owA.heads HS.out.1 HS.out.2.1)).mono ?_
  rintro e w2 ⟨rfl, hb2⟩
  have mid : SetMid w w2 ao c bo d m := by
    have k0 := fun j => hb2.cell (p := ⟨w.heap.size, j, none⟩) (by simp; omega)
    have k1 := fun j => hb2.frozen (p := ⟨w.heap.size, j, none⟩) (by simp; omega)
    have k2 := fun j => hb2.cell (p := ⟨w.heap.size + 1, j, none⟩) (by simp; omega)
    have k3 := fun j => hb2.frozen (p := ⟨w.heap.size + 1, j, none⟩) (by simp; omega)
    have hsz := hb2.size
    simp at hsz
    refine ⟨?_, ?_, ?_, ?_, ?_, ?_, ?_, ?_, ?_, ?_, owns_ms_below owA hb2, blA.trans (hb2.mono (by simp; omega)), by omega⟩
    · rw [k0]; simp [go_sem, hc1]
    · rw [k0]; simp [go_sem, hc1]
    · rw [k0]; simp [go_sem, hc1]
    · rw [k0]; simp [go_sem, hc1]
    · intro j; rw [k1]; simp [hf1]
    · rw [k2]; simp [go_sem, hd1]
    · rw [k2]; simp [go_sem, hd1]; rfl
    · rw [k2]; simp [go_sem, hd1]
    · rw [k2]; simp [go_sem, hd1]
    · intro j; rw [k3]; simp [he1]
  clear hb2 owA blA hc1 hf1 hd1 he1 hs1 bl2 bl ow hm' hbw
  obtain ⟨f0, f1, f2, f3, g, r0, r1, r2, r3, rg, ow, bl, sz⟩ := mid
  rcases fnd_cases key m.heads with ⟨h1, h2⟩ | ⟨k, hk, h1, h2, h3⟩
  · rw [h1]
    have hno := (get_none h2).2
    clear h1 h2
    by_cases hlen : m.heads.length < 6
    · have HE : Hid (setHs key text m.heads = m.heads ++ [(key, text)]) := by
        show setHs key text m.heads = _
        rw [setHs, hno, if_neg (by simp), if_pos hlen]
      clear hno
      have hl6 : (m.heads.length : Int) < 6 := by omega
      obtain ⟨i45, hi45, hz45, hs45, hb45⟩ := info_parts Try.info45
      have vlt := ow.heads.lt
      have OW : Hid (OwnsMs (w.heap.size + 2) w2 ao c bo d m) := ow
      go_wp2_with (at_builtin; refine wpList_append_lies _ rfl (.tmp 27) (.tmp 31) 24 rfl (w.heap.size + 2) 53 i45 _ 2 32 Try.underlying24 hi45 hz45 hs45 hb45 rfl (by decide) (.slice ao m.heads.length c) m.heads.length (hcells m.heads) rfl (OW.out.heads.alloc _) ⟨w2.heap.size, 0, none⟩ 1 1 [.string key, .string text] rfl rfl ?qnews ?qone (by decide) ?q63 ?qby ?qbase (w2.heap.size + 1) (by simp) ?_)
      case qnews => exact pair_new _ _ _ _
      case qone => intro u hu; simp at hu; rcases hu with rfl | rfl <;> rfl
      case q63 => unfold maxLen; omega
      case qby => omega
      case qbase => simp; omega
      intro g1 cap1 w3 own3 gr3 hor hlt3
      obtain ⟨k0, k1, k2, k3⟩ := box2 (far2 gr3 (fun k hk => (vlt k hk).1) sz)
      have hE : Hid (setM m key text = { m with heads := m.heads ++ [(key, text)] }) := by show setM m key text = _; rw [setM, HE.out]
      have hll : ({ m with heads := m.heads ++ [(key, text)] } : Ms).heads.length = m.heads.length + 1 := by simp
      have OW3 : Hid (OwnsMs (w.heap.size + 2) w3 (some ⟨g1, 0, none⟩) cap1 bo d { m with heads := m.heads ++ [(key, text)] }) := by
        refine ⟨?_, (OW.out.body.alloc _).kept gr3 ?_, ?_⟩
        · rw [hll, hcells_append]; exact own3
        · cases hbk : (Value.slice bo m.body.size d).ownBlock with
          | none => exact .inl rfl
          | some gb => exact .inr fun e => OW.out.apart gb hbk e.symm
        · intro gb hgb e
          have e' : g1 = gb := by simpa [Value.ownBlock] using e
          subst e'
          rcases hor with ho | ho
          · exact OW.out.apart g1 hgb ho
          · have := (OW.out.body.lt g1 hgb).2
            omega
      have BL3 : Hid (Below w.heap.size w w3) := (bl.alloc (by omega) _).grown gr3 (by simp; omega) (fun k hk => by have := (vlt k hk).1; omega)
      clear hll own3 gr3 hor vlt ow bl
      go_wp2
      refine bodyPost_ret (v := .agg #[.int .i64 m.st, .string m.path, .slice (some ⟨g1, 0, none⟩) (m.heads.length + 1) cap1, .slice bo m.body.size d]) ?_ rfl ⟨_, rfl, ?_, ?_, ?_⟩
      · simp [results, Try.results50, go_sem, k2, r0, r1, r2, r3]
      · rw [hE.out]
        have hll : ({ m with heads := m.heads ++ [(key, text)] } : Ms).heads.length = m.heads.length + 1 := by simp
        rw [← hll]
        refine msAt_of_owns (base := w.heap.size + 2) (m := { m with heads := m.heads ++ [(key, text)] }) ?_ hp ?_ ?_ ?_ HS.out.2.2
        · repeat (refine owns_ms_set ?_ (by simp) _)
          exact OW3.out
        · rw [hll]; exact ⟨by omega, HR.out.2⟩
        · rw [hll]; unfold maxLen; omega
        · intro h hh
          rcases List.mem_append.1 hh with hh | hh
          · exact HS.out.2.1 h hh
          · obtain rfl : h = (key, text) := by simpa using hh
            exact ⟨hkey, ht⟩
      · have hf : From (w.heap.size + 2) (.agg #[.int .i64 m.st, .string m.path, .slice (some ⟨g1, 0, none⟩) (m.heads.length + 1) cap1, .slice bo m.body.size d]) := by
          have := from_owns (x := .int .i64 m.st) (y := .string m.path) OW3.out
          simpa using this
        exact hf.mono (by omega)
      · repeat (refine Below.setCell ?_ (by simp) _)
        exact BL3.out
    · have HE : Hid (setHs key text m.heads = m.heads) := by
        show setHs key text m.heads = _
        rw [setHs, hno, if_neg (by simp), if_neg hlen]
      clear hno
      have hl6 : ¬ (m.heads.length : Int) < 6 := by omega
      have OW : Hid (OwnsMs (w.heap.size + 2) w2 ao c bo d m) := ow
      clear ow
      go_wp2
      have hE : setM m key text = m := by rw [setM, HE.out]
      refine bodyPost_ret (v := .agg #[.int .i64 m.st, .string m.path, .slice ao m.heads.length c, .slice bo m.body.size d]) ?_ rfl ⟨_, rfl, ?_, ?_, ?_⟩
      · simp [results, Try.results50, go_sem, r0, r1, r2, r3]
      · rw [hE]
        refine msAt_of_owns (base := w.heap.size + 2) ?_ hp HR.out HS.out.1 HS.out.2.1 HS.out.2.2
        repeat (refine owns_ms_set ?_ (by simp) _)
        exact OW.out
      · exact (from_owns OW.out).mono (by omega)
      · repeat (refine Below.setCell ?_ (by simp) _)
        exact bl
  · rw [h1]
    have HE : Hid (setHs key text m.heads = m.heads.set k (m.heads[k].1, text)) := by
      show setHs key text m.heads = _
      rw [setHs, (get_some k hk h2 h3).2, if_pos rfl, setH_at k hk h2 h3]
    clear h1 h2 h3
    obtain ⟨g', cap, hv, hge, hlt⟩ := ow.heads.form (by omega)
    simp only [Value.slice.injEq, true_and] at hv
    obtain ⟨rfl, rfl⟩ := hv
    have hst := ow.heads.stored (k * 2 + 1) (.string text)
    rw [← hcells_set m.heads k hk text] at hst
    have q0 := (ow.heads.cellAt (k * 2 + 1) (by omega)).trans (hcells_at m.heads k hk).2
    have qf := fun j => ow.heads.frozenAt j
    have hb := owns_setCell_ne ow.body (a := ⟨g', k * 2 + 1, none⟩) (fun e => ow.apart g' e rfl) (.string text)
    have AP : Hid _ := ow.apart
    clear ow
    have hklt : (k : Int) < (m.heads.length : Int) := by omega
    have ne1 : ¬ g' = w.heap.size := by omega
    have ne2 : ¬ g' = w.heap.size + 1 := by omega
    go_wp2
    have hE : setM m key text = { m with heads := m.heads.set k (m.heads[k].1, text) } := by rw [setM, HE.out]
    refine bodyPost_ret (v := .agg #[.int .i64 m.st, .string m.path, .slice (some ⟨g', 0, none⟩) m.heads.length c, .slice bo m.body.size d]) ?_ rfl ⟨_, rfl, ?_, ?_, ?_⟩
    · simp [results, Try.results50, go_sem, r0, r1, r2, r3]
    · rw [hE]
      have hll : ({ m with heads := m.heads.set k (m.heads[k].1, text) } : Ms).heads.length = m.heads.length := by simp
      have ow' : OwnsMs (w.heap.size + 2) (w2.setCell ⟨g', k * 2 + 1, none⟩ (.string text)) (some ⟨g', 0, none⟩) c bo d { m with heads := m.heads.set k (m.heads[k].1, text) } := by
        refine ⟨?_, hb, ?_⟩
        · rw [hll]; exact hst.1
        · rw [hll]; exact AP.out
      rw [← hll]
      refine msAt_of_owns (base := w.heap.size + 2) (m := { m with heads := m.heads.set k (m.heads[k].1, text) }) ?_ hp ?_ ?_ ?_ HS.out.2.2
      · iterate 4 (refine owns_ms_set ?_ (by simp) _)
        exact ow'
      · rw [hll]; exact HR.out
      · rw [hll]; exact HS.out.1
      · intro h hh
        rcases List.mem_or_eq_of_mem_set hh with hh | rfl
        · exact HS.out.2.1 h hh
        · exact ⟨(HS.out.2.1 _ (List.getElem_mem hk)).1, ht⟩
    · refine ⟨_, _, _, _, _, _, _, _, rfl, fun a ha => ?_, fun a ha => Nat.le_trans (Nat.le_add_right _ 2) (from_row hb a ha)⟩
      obtain rfl : ⟨g', 0, none⟩ = a := Option.some.inj ha
      show _ ≤ g'
      omega
    · iterate 4 (refine Below.setCell ?_ (by simp) _)
      exact bl.setCell (by show _ ≤ g'; omega) _
end Go.Proofs.Ytmndhecbjpjamaa
