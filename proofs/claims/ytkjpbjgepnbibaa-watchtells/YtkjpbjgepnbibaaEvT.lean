/- The second engine: rows read, written, cut, made; told from now on as what lies there. -/
import Derived.Test.YtkjpbjgepnbibaaEvR
import Derived.Laws.MakeOwn
import Derived.Laws.Slices
import Derived.Laws.Small
namespace Go.Proofs.Ytkjpbjgepnbibaa
namespace Ev
open Go.RowKit
set_option maxRecDepth 100000

section
variable {P : Program} {C : Cx} {Q : Exit → Act → World → Prop}
theorem own_some {w : World} {e z n : Nat} {blk : Blk} {l : List Value} (h : w.ownsRow 0 e z (.slice blk.ad n blk.c) n l) (hn : 0 < n) : ∃ g, blk.a = some g := by
  rcases h.2 with ⟨_, h0⟩ | ⟨g, cap, cur, h1, _⟩
  · omega
  · simp only [Value.slice.injEq] at h1
    unfold Blk.ad at h1
    cases e : blk.a with
    | none => rw [e] at h1; cases h1.1
    | some g' => exact ⟨g', rfl⟩
/-- The address of a row's element. -/
def idxW (P : Program) (s : List (Nat × SV)) (B : List Bx) (o : Oper) : Option (Nat × Nat × Nat × Int × Nat) := (idxV P s o).bind fun q => match q.1 with
  | .row k n => match B[k]? with
    | some (.row _ _ n' _) => some (k, n, n', q.2.2.1, q.2.2.2)
    | _ => none
  | _ => none
theorem idxR {c : Cfg} (i : Nat) (j k n sz : Nat) {y : Int} (hm : P.follows .mixedOrders = true) (h : ((tkD C.n c i).bind (idxW P c.st.s c.st.b)) = some (k, n, n, y, sz)) (hy : y = (j : Int)) (hj : j < n) (H : Runs P C Q (go P C.n 9999 (aftT c i (.ptr k (j * sz))))) : Runs P C Q c := by
  obtain ⟨o, h1, h2⟩ := Option.bind_eq_some_iff.1 h
  unfold idxW at h2
  obtain ⟨⟨v, m, y', sz'⟩, h3, h4⟩ := Option.bind_eq_some_iff.1 h2
  simp only at h4
  split at h4
  next k' n' =>
    split at h4
    next e z n2 l hk =>
      simp only [Option.some.injEq, Prod.mk.injEq] at h4
      obtain ⟨rfl, rfl, rfl, rfl, rfl⟩ := h4
      have hmn : m = n2 := by
        unfold idxV at h3
        split at h3
        · split at h3
          · obtain ⟨ti, _, h6⟩ := Option.bind_eq_some_iff.1 h3
            obtain ⟨u, _, h7⟩ := Option.bind_eq_some_iff.1 h6
            obtain ⟨zz, _, h8⟩ := Option.bind_eq_some_iff.1 h7
            obtain ⟨jj, _, h9⟩ := Option.bind_eq_some_iff.1 h8
            split at h9
            · simp only [Option.some.injEq, Prod.mk.injEq, SV.row.injEq] at h9
              obtain ⟨⟨_, rfl⟩, rfl, _⟩ := h9
              rfl
            · split at h9
              · simp at h9
              · cases h9
            · cases h9
          · cases h3
        · cases h3
      subst hmn
      refine toldA i (.ptr k' (j * sz')) hm h1 (fun bs a0 w0 A0 a w A _ => ?_) H
      have own : w0.ownsRow 0 e z (.slice (bkA bs k').ad m (bkA bs k').c) m l := (A0.b.b k' _ hk).o
      obtain ⟨g, hg⟩ := own_some own (by omega)
      have hkl : k' < bs.length := by rw [A0.b.l]; exact (List.getElem?_eq_some_iff.1 hk).1
      refine ⟨?_, by simp only [okB]; exact Nat.ble_eq_true_of_le hkl⟩
      have := idx_run (P := P) (w := w) (c := c) (g := g) (off := 0) (cc := (bkA bs k').c) j A h3 hy hj (by simp only [SV.den, Blk.ad, hg]; rfl)
      rw [Nat.zero_add] at this
      simp only [SV.den, hg, Option.getD_some]
      exact this
    · cases h4
  · cases h4
/-- A row's cells are read. -/
def ldC (P : Program) (n : Nat) (c : Cfg) : Option (Nat × Nat × Nat × List Value) := (nxt c).bind fun p => bif dstOk n p.1 then match p.1.op with
  | .load T x => (tyK P T).bind fun q => (evS c.st.s x).bind fun v => match v with
    | .ptr k off => match c.st.b[k]? with
      | some (.row _ _ _ l) => some (q, k, off, l)
      | _ => none
    | _ => none
  | _ => none
  else none
theorem own_nz {w : World} {e z n : Nat} {blk : Blk} {l : List Value} (h : w.ownsRow 0 e z (.slice blk.ad n blk.c) n l) (hl : 0 < l.length) : ∃ g, blk.a = some g ∧ (∀ j u, l[j]? = some u → w.cell? ⟨g, j, none⟩ = some u) ∧ ∀ j, w.frozen? ⟨g, j, none⟩ = false := by
  have hn : 0 < n := by
    rcases Nat.eq_zero_or_pos n with h0 | h0
    · subst h0
      have := h.1
      omega
    · exact h0
  obtain ⟨g, hg⟩ := own_some h hn
  have had : blk.ad = some ⟨g, 0, none⟩ := by unfold Blk.ad; rw [hg]; rfl
  rw [had] at h
  refine ⟨g, hg, fun j u hu => ?_, fun j => h.frozenAt j⟩
  have hj := (List.getElem?_eq_some_iff.1 hu).1
  rw [h.cellAt j (by rw [← h.1]; exact hj)]
  exact hu
theorem ldW {c : Cfg} {q k off : Nat} {l : List Value} (v : Value) (hm : P.follows .mixedOrders = true) (h : ldC P C.n c = some (q, k, off, l)) (hv : (q = 0 ∧ l[off]? = some v) ∨ ∃ vs, q = vs.length + 1 ∧ v = .agg vs.toArray ∧ (l.drop off).take vs.length = vs ∧ off < l.length) (H : Runs P C Q (go P C.n 9999 (aft c (.val v) c.st.b c.st.m))) : Runs P C Q c := by
  have H := go_ok hm _ H
  unfold ldC at h
  obtain ⟨⟨o, hd'⟩, h1, h2⟩ := Option.bind_eq_some_iff.1 h
  simp only at h2
  cases hd : dstOk C.n o with
  | false => rw [hd] at h2; cases h2
  | true =>
    rw [hd] at h2
    simp only [cond_true] at h2
    unfold aft at H
    rw [h1] at H
    split at h2
    next T x ho =>
      obtain ⟨q', h3, h4⟩ := Option.bind_eq_some_iff.1 h2
      obtain ⟨v', h5, h6⟩ := Option.bind_eq_some_iff.1 h4
      split at h6
      next k' off' =>
        split at h6
        next e z n l' hk =>
          cases h6
          refine core h1 fun bs a w A K Q' hK => ?_
          have own : w.ownsRow 0 e z (.slice (bkA bs k).ad n (bkA bs k).c) n l := (A.b.b k _ hk).o
          have hlp : 0 < l.length := by
            rcases hv with ⟨_, hv⟩ | ⟨vs, _, _, _, hv⟩
            · have := (List.getElem?_eq_some_iff.1 hv).1; omega
            · omega
          obtain ⟨g, hg, hc, hf⟩ := own_nz own hlp
          have ev := (evS_ok A.f h5).1
          simp only [SV.den, hg, Option.getD_some] at ev
          have hrun : (execOp a.eval o).run P w = .ok (.value v) w := by
            rcases hv with ⟨rfl, hv⟩ | ⟨vs, rfl, rfl, hv, _⟩
            · obtain ⟨td, u1, u2, _⟩ := tyK_cell h3
              exact r_ld u1 u2 ho ev (hc _ _ hv)
            · obtain ⟨td, u1, u2, u3⟩ := tyK_row h3
              have hb : BoxL w g l := ⟨hc, hf, owns_lt own (by rw [ownBlock_ad]; exact hg)⟩
              exact r_ls u1 u2 u3 ho ev (hb.mid _ _ hv)
          unfold Oper.wp
          rw [hrun, Oper.upon_value]
          have hput := A.sput (d := o.dst) (dst_lt hd) (x := .val v) (by simp only [okB])
          simp only [SV.den] at hput
          exact hK bs _ w _ hput (Stp.refl _ _ _) (Syw.refl _ _ _ _) H
        · cases h6
      · cases h6
    · cases h2
/-- A row's cells are written. -/
def stC (P : Program) (c : Cfg) : Option (Nat × Nat × List Value × List Value) := (nxt c).bind fun p => match p.1.op, p.1.dst with
  | .store T x y, none => (P.info? T).bind fun ti => (evS c.st.s x).bind fun v => (evS c.st.s y).bind fun u => (plain u).bind fun pv => match v with
    | .ptr k off => match c.st.b[k]? with
      | some (.row _ _ _ l) => bif Nat.beq pv.cells.toList.length ti.size && pv.cells.toList.all (·.oneCell') then some (k, off, l, pv.cells.toList) else none
      | _ => none
    | _ => none
  | _, _ => none
def setR (B : List Bx) (k : Nat) (l : List Value) : List Bx := match B[k]? with
  | some (.row e z n _) => B.set k (.row e z n l)
  | _ => B
def nxS (c : Cfg) (B : List Bx) : Cfg := match nxt c with | some p => ⟨p.2, c.r, ⟨c.st.s, B, c.st.m⟩⟩ | none => c
theorem own_put {e z n : Nat} {blk : Blk} {g : Nat} (hg : blk.a = some g) : ∀ (vs : List Value) (o : Nat) (l : List Value) (w : World), w.ownsRow 0 e z (.slice blk.ad n blk.c) n l → o + vs.length ≤ l.length → (w.setCells g o vs).ownsRow 0 e z (.slice blk.ad n blk.c) n (l.take o ++ vs ++ l.drop (o + vs.length))
  | [], o, l, w, h, _ => by simpa [World.setCells] using h
  | v :: r, o, l, w, h, hl => by
    rw [List.length_cons] at hl
    have had : blk.ad = some ⟨g, 0, none⟩ := by unfold Blk.ad; rw [hg]; rfl
    have h1 := (had ▸ h).stored o v
    have h2 := own_put hg r (o + 1) (l.set o v) (w.setCell ⟨g, o, none⟩ v) (had ▸ h1.1) (by rw [List.length_set]; omega)
    have e : (l.set o v).take (o + 1) ++ r ++ (l.set o v).drop (o + 1 + r.length) = l.take o ++ (v :: r) ++ l.drop (o + (v :: r).length) := by
      rw [List.length_cons, show o + 1 + r.length = o + (r.length + 1) by omega, List.drop_set_of_lt (by omega), List.take_succ_eq_append_getElem (by rw [List.length_set]; omega), List.getElem_set_self, List.take_set_of_le (Nat.le_refl _)]
      simp
    rw [e] at h2
    exact h2
theorem stW {c : Cfg} {k off : Nat} {l vs : List Value} (l' : List Value) (hm : P.follows .mixedOrders = true) (h : stC P c = some (k, off, l, vs)) (hlt : off + vs.length ≤ l.length) (h0 : 0 < vs.length) (hl : l.take off ++ vs ++ l.drop (off + vs.length) = l') (H : Runs P C Q (go P C.n 9999 (nxS c (setR c.st.b k l')))) : Runs P C Q c := by
  have H := go_ok hm _ H
  unfold stC at h
  obtain ⟨⟨o, hd'⟩, h1, h2⟩ := Option.bind_eq_some_iff.1 h
  simp only at h2
  split at h2
  next T x y ho hdst =>
    obtain ⟨ti, h3, h4⟩ := Option.bind_eq_some_iff.1 h2
    obtain ⟨v, h5, h6⟩ := Option.bind_eq_some_iff.1 h4
    obtain ⟨u, h7, h8⟩ := Option.bind_eq_some_iff.1 h6
    obtain ⟨pv, h9, h10⟩ := Option.bind_eq_some_iff.1 h8
    split at h10
    next k' off' =>
      split at h10
      next e z n l2 hk =>
        cases hb : (Nat.beq pv.cells.toList.length ti.size && pv.cells.toList.all (·.oneCell')) with
        | false => rw [hb] at h10; cases h10
        | true =>
          rw [hb] at h10
          cases h10
          obtain ⟨b1, b2⟩ := Bool.and_eq_true_iff.1 hb
          unfold nxS setR at H
          rw [h1] at H
          simp only [hk] at H
          refine core h1 fun bs a w A K Q' hK => ?_
          have own : w.ownsRow 0 e z (.slice (bkA bs k).ad n (bkA bs k).c) n l := (A.b.b k _ hk).o
          obtain ⟨g, hg, hc, hf⟩ := own_nz own (by omega)
          have hbx : BoxL w g l := ⟨hc, hf, owns_lt own (by rw [ownBlock_ad]; exact hg)⟩
          have ev := (evS_ok A.f h5).1
          simp only [SV.den, hg, Option.getD_some] at ev
          have ey : (a.eval y).cells = pv.cells.toList.toArray := by rw [(evS_ok A.f h7).1, plain_ok h9]
          have hfar := far_cells g pv.cells.toList off w
          have hlive : live bs c.st.b k = some g := by unfold live; rw [hk]; exact hg
          have own' := own_put (e := e) (z := z) (n := n) hg pv.cells.toList off l w own hlt
          rw [hl] at own'
          refine wpStore x y hdst ho g off l pv.cells.toList ev ey hbx hlt (by rw [h3]; simp [← Nat.eq_of_beq_eq_true b1]) (fun v hv => List.all_eq_true.1 b2 v hv) ?_
          have hbl : (Bx.row e z n l').bl = (Bx.row e z n l).bl := rfl
          have hnl : ∀ j Y, live bs (c.st.b.set k (.row e z n l')) j = some Y → (∃ j, live bs c.st.b j = some Y) ∨ w.heap.size ≤ Y := fun j Y hY => .inl ⟨j, by rwa [live_set hk hbl] at hY⟩
          have A' : At C bs ⟨c.st.s, c.st.b.set k (.row e z n l'), c.st.m⟩ a (w.setCells g off pv.cells.toList) := A.go (A.b.set hk hg hbl hfar ⟨own'⟩ rfl) (Stp.far (mem_lvs.2 ⟨k, hlive⟩) hfar) hnl
          have hce : Ce c.st.b (c.st.b.set k (.row e z n l')) := fun j us hj => ⟨us, by
            rw [List.getElem?_set_ne (fun e' => by
              subst e'
              rw [hk] at hj
              cases hj)]
            exact hj⟩
          refine hK bs a _ _ A' (Stp.far (mem_lvs.2 ⟨k, hlive⟩) hfar) ⟨fun bs0 hp hc2 hB => ?_, hce, hnl⟩ H
          have s : Sty (mN hd') bs bs c.st.b (c.st.b.set k (.row e z n l')) w (w.setCells g off pv.cells.toList) := ⟨fun j us X hj hX => hfar.bk X fun e' => by
            subst e'
            obtain ⟨us', hus'⟩ := hc2 j us hj
            exact A.b.nd j k X (fun e2 => by
              subst e2
              rw [hk] at hus'
              cases hus') hX hlive, hce, hnl⟩
          exact bxM_on hB hp hc2 s (by rw [hfar.z]; exact Nat.le_refl _)
      · cases h10
    · cases h10
  · cases h2
/-- A row is cut. -/
def slC (P : Program) (n : Nat) (c : Cfg) : Option (Nat × Nat × Int) := (nxt c).bind fun p => bif dstOk n p.1 then match p.1.op with
  | .slice t x none (some hi) none => (eltS P t).bind fun q => (evS c.st.s x).bind fun v => (evS c.st.s hi).bind fun h => (intS h).bind fun y => match v with
    | .row k n => match c.st.b[k]? with
      | some (.row e z n' _) => bif Nat.beq q.1 e && Nat.beq q.2 z then some (n, n', y) else none
      | _ => none
    | _ => none
  | _ => none
  else none
def slK (c : Cfg) : Option (Nat × Nat × Nat × List Value) := (nxt c).bind fun p => match p.1.op with
  | .slice _ x _ _ _ => (evS c.st.s x).bind fun v => match v with
    | .row k _ => match c.st.b[k]? with
      | some (.row e z _ l) => some (k, e, z, l)
      | _ => none
    | _ => none
  | _ => none
def aftL (c : Cfg) (hi : Nat) (l' : List Value) : Cfg := match slK c with
  | some (k, e, z, _) => aft c (.row c.st.b.length hi) (c.st.b.set k .dead ++ [.row e z hi l']) c.st.m
  | none => c
theorem own_cut {w : World} {e z n hi : Nat} {blk : Blk} {l : List Value} (h : w.ownsRow 0 e z (.slice blk.ad n blk.c) n l) (hh : hi ≤ n) : w.ownsRow 0 e z (.slice blk.ad hi blk.c) hi (l.take (hi * z)) := by
  have hz : hi * z ≤ n * z := Nat.mul_le_mul_right z hh
  refine ⟨by rw [List.length_take, h.1]; omega, ?_⟩
  rcases h.2 with ⟨h1, h2⟩ | ⟨g, cap, cur, h1, h2, h3, h4, h5, h6, h7⟩
  · simp only [Value.slice.injEq] at h1
    obtain ⟨a1, a2, a3⟩ := h1
    have : hi = 0 := by omega
    subst this
    exact .inl ⟨by rw [a1, a3], rfl⟩
  · simp only [Value.slice.injEq, true_and] at h1
    obtain ⟨a1, a3⟩ := h1
    exact .inr ⟨g, cap, cur, by rw [a1, a3], h2, h3, by omega, h5, h6, by rw [← h7, List.take_take, Nat.min_eq_left hz]⟩
theorem slc {c : Cfg} (n hi : Nat) {k e z : Nat} {l : List Value} {y : Int} (l' : List Value) (hm : P.follows .mixedOrders = true) (h : slC P C.n c = some (n, n, y)) (hk' : slK c = some (k, e, z, l)) (hy : y = (hi : Int)) (hh : hi ≤ n) (hl : l.take (hi * z) = l') (H : Runs P C Q (go P C.n 9999 (aftL c hi l'))) : Runs P C Q c := by
  have H := go_ok hm _ H
  unfold slC at h
  obtain ⟨⟨o, hd'⟩, h1, h2⟩ := Option.bind_eq_some_iff.1 h
  simp only at h2
  cases hd : dstOk C.n o with
  | false => rw [hd] at h2; cases h2
  | true =>
    rw [hd] at h2
    simp only [cond_true] at h2
    unfold aftL at H
    rw [hk'] at H
    unfold aft at H
    rw [h1] at H
    unfold slK at hk'
    rw [h1] at hk'
    simp only [Option.bind_some] at hk'
    split at h2
    next t x hio ho =>
      simp only [ho] at hk'
      obtain ⟨⟨e', z'⟩, h3, h4⟩ := Option.bind_eq_some_iff.1 h2
      obtain ⟨v, h5, h6⟩ := Option.bind_eq_some_iff.1 h4
      obtain ⟨hv, h7, h8⟩ := Option.bind_eq_some_iff.1 h6
      obtain ⟨y', h9, h10⟩ := Option.bind_eq_some_iff.1 h8
      rw [h5] at hk'
      simp only [Option.bind_some] at hk'
      split at h10
      next k2 n2 =>
        simp only at hk'
        split at h10
        next e2 z2 n3 l2 hk =>
          simp only [hk, Option.some.injEq, Prod.mk.injEq] at hk'
          obtain ⟨rfl, rfl, rfl, rfl⟩ := hk'
          cases hb : (Nat.beq e' e2 && Nat.beq z' z2) with
          | false => rw [hb] at h10; cases h10
          | true =>
            rw [hb] at h10
            simp only [cond_true, Option.some.injEq, Prod.mk.injEq] at h10
            obtain ⟨rfl, rfl, rfl⟩ := h10
            obtain ⟨b1, b2⟩ := Bool.and_eq_true_iff.1 hb
            obtain ⟨i, zv, i1, i2, i3, i4, i5, i6⟩ := eltS_ok h3
            refine core h1 fun bs a w A K Q' hK => ?_
            have own : w.ownsRow 0 e2 z2 (.slice (bkA bs k2).ad n3 (bkA bs k2).c) n3 l2 := (A.b.b k2 _ hk).o
            have own' := own_cut own hh
            rw [hl] at own'
            have ev := (evS_ok A.f h5).1
            simp only [SV.den] at ev
            have ehi := intS_eval A.f h7 h9
            subst hy
            have hcap : (hi : Int) ≤ ((bkA bs k2).c : Int) := by
              rcases own.2 with ⟨h1', h2'⟩ | ⟨g, cap, cur, h1', _, _, h4', _⟩
              · omega
              · simp only [Value.slice.injEq, true_and] at h1'
                omega
            have hel : P.underlying t = some (.slice (P.elem t)) := by
              have : P.elem t = e' := by simp [Program.elem, i1]
              rw [this]
              exact i1
            have hsz : (sizeOf (P.elem t)).run P w = .ok z' w := by
              have : P.elem t = e' := by simp [Program.elem, i1]
              rw [this]
              simp [sizeOf, typeInfo, i2, i4]
            have hrun : (execOp a.eval o).run P w = .ok (.value (.slice (bkA bs k2).ad hi (bkA bs k2).c)) w := by
              have hr := run_slice_h (P := P) w t (bkA bs k2).ad n3 (bkA bs k2).c hel .i64 (hi : Int) (by omega) hcap
              rw [hsz] at hr
              have hr2 := run_sliceAt_slice (P := P) w t (.slice (bkA bs k2).ad n3 (bkA bs k2).c) none (some (.int .i64 (hi : Int))) none hel
              rw [hr] at hr2
              have hsl : sliced (bkA bs k2).ad 0 hi (bkA bs k2).c z' = .slice (bkA bs k2).ad hi (bkA bs k2).c := by
                unfold sliced
                simp only [Nat.sub_zero, Nat.zero_mul]
                split
                · rfl
                · congr 1
                  cases (bkA bs k2).ad with
                  | none => rfl
                  | some ad => simp [Addr.add]
              simp only [Int.toNat_natCast, Result.andThen_ok, hsl] at hr2
              unfold execOp
              simp [ho, ev, ehi, hr2]
            unfold Oper.wp
            rw [hrun, Oper.upon_value]
            have hB0 := A.b.dead k2
            have hnl : ∀ j X, live (bs ++ [bkA bs k2]) (c.st.b.set k2 .dead ++ [.row e2 z2 hi l']) j = some X → (∃ j, live bs c.st.b j = some X) ∨ w.heap.size ≤ X := fun j X hX => by
              rcases live_more hB0.l hX with ⟨_, h1⟩ | ⟨_, h1⟩
              · exact .inl ⟨j, (live_dead h1).2⟩
              · exact .inl ⟨k2, by unfold live; rw [hk]; exact h1⟩
            have hBk : Bk (bs ++ [bkA bs k2]) (c.st.b.set k2 .dead ++ [.row e2 z2 hi l']) w := hB0.more ⟨own'⟩ rfl fun X hX j hj => by
              obtain ⟨d1, d2⟩ := live_dead hj
              exact A.b.nd j k2 X d1 d2 (by unfold live; rw [hk]; exact hX)
            have hS : Stp bs (bs ++ [bkA bs k2]) (lvs bs c.st.b) w w := ⟨Below.refl _ _, fun _ _ _ => rfl, [bkA bs k2], rfl⟩
            have hce : Ce c.st.b (c.st.b.set k2 .dead ++ [.row e2 z2 hi l']) := fun j us hj => by
              rw [List.getElem?_append_left (by rw [List.length_set]; exact (List.getElem?_eq_some_iff.1 hj).1)]
              refine ⟨us, ?_⟩
              rw [List.getElem?_set_ne (fun e' => by
                subst e'
                rw [hk] at hj
                cases hj)]
              exact hj
            have hput := (A.go hBk hS hnl).sput (d := o.dst) (dst_lt hd) (x := .row c.st.b.length hi) (by simp only [okB, List.length_append, List.length_singleton, A.b.l]; exact Nat.ble_eq_true_of_le (Nat.le_refl _))
            simp only [SV.den] at hput
            rw [← A.b.l, bkA_last] at hput
            rw [A.b.l] at hput
            exact hK _ _ w _ hput hS ⟨fun bs0 hp hc hB => hB, hce, hnl⟩ H
        · cases h10
      · cases h10
    · cases h2
/-- A row is made. -/
def mkC (P : Program) (n : Nat) (c : Cfg) : Option (Int × Int × List Value) := (nxt c).bind fun p => bif dstOk n p.1 then match p.1.op with
  | .makeSlice t x y => (eltS P t).bind fun q => bif smallT P q.1 then (evS c.st.s x).bind fun u => (evS c.st.s y).bind fun v => (intS u).bind fun i => (intS v).bind fun j => (zOf P q.1).map fun zs => (i, j, zs.toList) else none
  | _ => none
  else none
def mkT (P : Program) (c : Cfg) : Option (TypeId × Nat) := (nxt c).bind fun p => match p.1.op with
  | .makeSlice t _ _ => eltS P t
  | _ => none
def aftM (P : Program) (c : Cfg) (n : Nat) (l : List Value) : Cfg := match mkT P c with
  | some (e, z) => aft c (.row c.st.b.length n) (c.st.b ++ [.row e z n l]) c.st.m
  | none => c
theorem made_flat (zs : List Value) (h0 : 0 < zs.length) : ∀ n, (madeCells zs.toArray (n * zs.length)).toList = (List.replicate n zs).flatten := by
  intro n
  apply List.ext_getElem?
  intro i
  have hl : ((List.replicate n zs).flatten).length = n * zs.length := by simp
  unfold madeCells
  simp only [Array.toList_map, List.getElem?_map, Array.toList_range]
  rcases Nat.lt_or_ge i (n * zs.length) with hi | hi
  · rw [List.getElem?_range hi, Option.map_some]
    have key : ∀ n i, i < n * zs.length → (List.replicate n zs).flatten[i]? = zs[i % zs.length]? := by
      intro n
      induction n with
      | zero => intro i hi; simp at hi
      | succ n ih =>
        intro i hi
        rw [List.replicate_succ, List.flatten_cons]
        rcases Nat.lt_or_ge i zs.length with hlt | hge
        · rw [List.getElem?_append_left hlt, Nat.mod_eq_of_lt hlt]
        · rw [List.getElem?_append_right hge, ih _ (by rw [Nat.succ_mul] at hi; omega)]
          congr 1
          rw [Nat.mod_eq_sub_mod hge]
    rw [key n i hi]
    have hm : i % zs.length < zs.length := Nat.mod_lt _ h0
    simp [hm]
  · rw [List.getElem?_eq_none (by simpa using hi), List.getElem?_eq_none (by rw [hl]; exact hi)]
    rfl
theorem mk {c : Cfg} (n : Nat) {y : Int} {zs : List Value} (l : List Value) (hm : P.follows .mixedOrders = true) (h : mkC P C.n c = some (y, y, zs)) (hy : y = (n : Int)) (hn : n ≤ 2147483648) (hl : (List.replicate n zs).flatten = l) (H : Runs P C Q (go P C.n 9999 (aftM P c n l))) : Runs P C Q c := by
  have H := go_ok hm _ H
  unfold mkC at h
  obtain ⟨⟨o, hd'⟩, h1, h2⟩ := Option.bind_eq_some_iff.1 h
  simp only at h2
  cases hd : dstOk C.n o with
  | false => rw [hd] at h2; cases h2
  | true =>
    rw [hd] at h2
    simp only [cond_true] at h2
    split at h2
    next t x x2 ho =>
      obtain ⟨⟨e, z⟩, h3, h4⟩ := Option.bind_eq_some_iff.1 h2
      simp only at h4
      cases hs : smallT P e with
      | false => rw [hs] at h4; cases h4
      | true =>
        rw [hs] at h4
        simp only [cond_true] at h4
        obtain ⟨u, h5, h6⟩ := Option.bind_eq_some_iff.1 h4
        obtain ⟨v, h7, h8⟩ := Option.bind_eq_some_iff.1 h6
        obtain ⟨i1', h9, h10⟩ := Option.bind_eq_some_iff.1 h8
        obtain ⟨i2', h11, h12⟩ := Option.bind_eq_some_iff.1 h10
        obtain ⟨zs', h13, h14⟩ := Option.map_eq_some_iff.1 h12
        simp only [Prod.mk.injEq] at h14
        obtain ⟨rfl, rfl, rfl⟩ := h14
        subst hy
        unfold aftM mkT at H
        rw [h1] at H
        simp only [Option.bind_some, ho, h3] at H
        unfold aft at H
        rw [h1] at H
        obtain ⟨i, zv, i1, i2, i3, i4, i5, i6⟩ := eltS_ok h3
        obtain ⟨_, _, j1, j2, j3⟩ := zOf_parts h13
        rw [i2] at j1
        cases j1
        rw [i3] at j2
        cases j2
        have hby := small_ok hs i2
        have hzl : zs'.toList.length = z := by rw [← i5, j3]; simp
        refine core h1 fun bs a w A K Q' hK => ?_
        have e1 := intS_eval A.f h5 h9
        have e2 := intS_eval A.f h7 h11
        have hbytes : (i.bytes : Int) * (n : Int) ≤ 281474976710656 := by
          have : i.bytes * n ≤ 65536 * 2147483648 := Nat.mul_le_mul hby hn
          have h2 : ((i.bytes * n : Nat) : Int) ≤ 281474976710656 := by omega
          rwa [Int.natCast_mul] at h2
        have hr := run_make (P := P) w t e i zv i1 i2 i3 .i64 .i64 (n : Int) (n : Int) (by omega) (by omega) hbytes (by omega)
        have hmade : (madeCells zv.cells (n * z)).toList = l := by
          rw [← hl, j3, ← hzl]
          have := made_flat zs'.toList (by rw [hzl]; exact i6) n
          rwa [Array.toArray_toList] at this
        have hmade' : madeCells zv.cells (n * z) = l.toArray := by rw [← hmade]
        simp only [Int.toNat_natCast, i4] at hr
        rw [hmade'] at hr
        have hrun : (execOp a.eval o).run P w = .ok (.value (.slice (some ⟨w.heap.size, 0, none⟩) n n)) (w.alloc (.cells l.toArray e)) := by
          unfold execOp
          simp [ho, e1, e2, hr]
        unfold Oper.wp
        rw [hrun, Oper.upon_value]
        have hll : l.length = n * z := by rw [← hmade]; simp [size_madeCells]
        have hnew : ∀ X, (Bx.row e z n l).bl ⟨some w.heap.size, n⟩ = some X → w.heap.size ≤ X := fun X hX => by cases hX; exact Nat.le_refl _
        have hA := A.newR (b := ⟨some w.heap.size, n⟩) (e := e) (z := z) (n := n) (l := l) (alloc_below w (.cells l.toArray e)) ⟨hll, .inr ⟨w.heap.size, n, l.toArray, rfl, Nat.zero_le _, heap_alloc_new w _, Nat.le_refl _, by unfold maxLen; omega, by simpa using hll, by simp [← hll]⟩⟩ hnew
        have hput := hA.sput (d := o.dst) (dst_lt hd) (x := .row c.st.b.length n) (by simp only [okB, List.length_append, List.length_singleton, A.b.l]; exact Nat.ble_eq_true_of_le (Nat.le_refl _))
        simp only [SV.den] at hput
        rw [← A.b.l, bkA_last] at hput
        rw [A.b.l] at hput
        exact hK _ _ _ _ hput (Stp.newB _ (alloc_below _ _)) ((Sty.newB A.b (alloc_below _ _) hnew).toW (alloc_below _ _).size) H
    · cases h2
/-- The greater, the lesser of two numbers. -/
def isMM : Callee → Option Bool
  | .builtin .max => some true
  | .builtin .min => some false
  | _ => none
def mmV (s : List (Nat × SV)) (o : Oper) : Option (Bool × Int × Int) :=
  match o.op with
  | .call k => (isMM k.callee).bind fun b => match k.args.toList with
    | [x, y] => (evS s x).bind fun u => (evS s y).bind fun v => (intS u).bind fun i => (intS v).map fun j => (b, i, j)
    | _ => none
  | _ => none
theorem mm {c : Cfg} (i : Nat) (v : Int) {b : Bool} {x y : Int} (hm : P.follows .mixedOrders = true) (h : ((tkD C.n c i).bind (mmV c.st.s)) = some (b, x, y)) (hv : (if b = true then (if y > x then y else x) else (if y < x then y else x)) = v) (H : Runs P C Q (go P C.n 9999 (aftT c i (vi v)))) : Runs P C Q c := by
  obtain ⟨o, h1, h2⟩ := Option.bind_eq_some_iff.1 h
  refine told i (vi v) hm h1 (fun bs a w A _ => ⟨?_, by simp only [vi, okB]⟩) H
  unfold mmV at h2
  split at h2
  next k ho =>
    obtain ⟨b', h3, h4⟩ := Option.bind_eq_some_iff.1 h2
    split at h4
    next p q ea =>
      obtain ⟨u, h5, h6⟩ := Option.bind_eq_some_iff.1 h4
      obtain ⟨u', h7, h8⟩ := Option.bind_eq_some_iff.1 h6
      obtain ⟨x', h9, h10⟩ := Option.bind_eq_some_iff.1 h8
      obtain ⟨y', h11, h12⟩ := Option.map_eq_some_iff.1 h10
      cases h12
      have e1 := intS_eval A h5 h9
      have e2 := intS_eval A h7 h11
      have ea' : k.args = #[p, q] := by apply Array.ext'; simpa using ea
      obtain ⟨ce, ar, at'⟩ := k
      simp only at ea' h3
      subst ea'
      unfold isMM at h3
      simp only [vi, SV.den]
      unfold execOp
      split at h3
      · cases h3
        simp [ho, e1, e2, resolve, invoke, builtin, run_max_int2, ← hv]
      · cases h3
        simp [ho, e1, e2, resolve, invoke, builtin, run_min_int2, ← hv]
      · cases h3
    · cases h4
  · cases h2
end
end Ev
end Go.Proofs.Ytkjpbjgepnbibaa
