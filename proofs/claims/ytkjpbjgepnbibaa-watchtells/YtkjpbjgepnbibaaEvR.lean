/- The second engine: rows. -/
import Derived.Test.YtkjpbjgepnbibaaEvS
import Derived.Maps.AppendAt
import Derived.Laws.OwnMore
namespace Go.Proofs.Ytkjpbjgepnbibaa
namespace Ev
open Go.RowKit
set_option maxRecDepth 100000

def isApp : Callee → Bool
  | .builtin .append => true
  | _ => false
def smallT (P : Program) (e : TypeId) : Bool := match P.info? e with | some i => Nat.ble i.bytes 65536 | none => false
/-- 'append': its two operands, the element's type and size. -/
def apO (P : Program) (n : Nat) (c : Cfg) : Option (SV × SV × TypeId × Nat) := (nxt c).bind fun p => match p.1.op with
  | .call k => bif isApp k.callee && dstOk n p.1 then match k.args.toList, k.argTypes.toList with
    | [s, x], [t, t'] => bif Nat.beq t t' then (eltS P t).bind fun q => bif smallT P q.1 then (evS c.st.s s).bind fun u => (evS c.st.s x).map fun v => (u, v, q.1, q.2) else none else none
    | _, _ => none
    else none
  | _ => none
/-- What is appended to: how many, its cells, which box. -/
def fstV (e z : Nat) (B : List Bx) : SV → Option (Nat × Nat × List Value × Option Nat)
  | .val v => match v with
    | .slice none 0 0 => some (0, 0, [], none)
    | _ => none
  | .row k n => match B[k]? with
    | some (.row e' z' n' l) => bif Nat.beq e e' && Nat.beq z z' then some (n, n', l, some k) else none
    | _ => none
  | _ => none
def sndV (e z : Nat) (B : List Bx) : SV → Option (Nat × Nat × List Value)
  | .row k n => match B[k]? with
    | some (.row e' z' n' l) => bif Nat.beq e e' && Nat.beq z z' then some (n, n', l) else none
    | _ => none
  | _ => none
def deadO (B : List Bx) : Option Nat → List Bx
  | some k => B.set k .dead
  | none => B
def apV (P : Program) (n : Nat) (c : Cfg) : Option (Nat × Nat × Nat × Nat × Bool × List Value × List Value) := (apO P n c).bind fun q => (fstV q.2.2.1 q.2.2.2 c.st.b q.1).bind fun f => (sndV q.2.2.1 q.2.2.2 c.st.b q.2.1).map fun s => (f.1, f.2.1, s.1, s.2.1, s.2.2.all (·.oneCell'), f.2.2.1, s.2.2)
def aftA (P : Program) (n : Nat) (c : Cfg) (n' : Nat) (l' : List Value) : Cfg :=
  match (apO P n c).bind fun q => (fstV q.2.2.1 q.2.2.2 c.st.b q.1).map fun f => (q.2.2.1, q.2.2.2, f) with
  | some (e, z, f) => aft c (.row c.st.b.length n') (deadO c.st.b f.2.2.2 ++ [.row e z n' l']) c.st.m
  | none => c
section
variable {P : Program} {C : Cx} {Q : Exit → Act → World → Prop}
theorem small_ok {e : TypeId} {i : TypeInfo} (h : smallT P e = true) (hi : P.info? e = some i) : i.bytes ≤ 65536 := by
  unfold smallT at h
  rw [hi] at h
  exact Nat.le_of_ble_eq_true h
/-- Some of a box's list at nought. -/
theorem live_deadO {bs : List Blk} {B : List Bx} {ok : Option Nat} {j X : Nat} (h : live bs (deadO B ok) j = some X) : (∀ k, ok = some k → j ≠ k) ∧ live bs B j = some X := by
  cases ok with
  | none => exact ⟨fun k e => by (cases e), h⟩
  | some k =>
    obtain ⟨h1, h2⟩ := live_dead h
    exact ⟨fun k' e => by cases e; exact h1, h2⟩
theorem deadO_len (B : List Bx) (ok : Option Nat) : (deadO B ok).length = B.length := by
  cases ok with
  | none => rfl
  | some k => exact List.length_set
/-- Behind an append: the row's box is of no account any more, there is one box more. -/
theorem At.app {bs : List Blk} {st : SS} {a : Act} {w w' : World} (A : At C bs st a w) {M : List Bx} (ok : Option Nat) (row : Option Nat) {e z n : Nat} {l : List Value} (blk : Blk) (hrow : ∀ X, row = some X → ∃ k, ok = some k ∧ live bs st.b k = some X) (hok : ∀ k, ok = some k → ∃ e z n l, st.b[k]? = some (.row e z n l)) (g : w.grownBy w' row) (own : w'.ownsRow 0 e z (.slice blk.ad n blk.c) n l) (hb : blk.a = row ∨ blk.a = some w.heap.size ∨ blk.a = none) :
    At C (bs ++ [blk]) ⟨st.s, deadO st.b ok ++ [.row e z n l], st.m⟩ a w' ∧ Stp bs (bs ++ [blk]) (lvs bs st.b) w w' ∧ Syw M bs (bs ++ [blk]) st.b (deadO st.b ok ++ [.row e z n l]) w w' := by
  have hbelow : Below 0 w w' := ⟨g.os, g.tape, g.output, g.size, fun k hk => absurd hk (Nat.not_lt_zero k)⟩
  have hl : bs.length = (deadO st.b ok).length := by rw [deadO_len]; exact A.b.l
  have hlr : ∀ X, row = some X → X ∈ lvs bs st.b := fun X hX => by
    obtain ⟨k, _, h2⟩ := hrow X hX
    exact mem_lvs.2 ⟨k, h2⟩
  have hsame : ∀ k, k < w.heap.size → k ∉ lvs bs st.b → w'.heap[k]? = w.heap[k]? := fun k hk hn => g.block k hk fun e => hn (hlr k e.symm)
  have hoth : ∀ j X, live bs st.b j = some X → (∀ k, ok = some k → j ≠ k) → w'.heap[X]? = w.heap[X]? := fun j X hX hne => g.block X (A.b.lt hX) fun e => by
    obtain ⟨k, h1, h2⟩ := hrow X e.symm
    exact A.b.nd j k X (hne k h1) hX h2
  have hD : Bk bs (deadO st.b ok) w' := by
    have hB : Bk bs (deadO st.b ok) w := by
      cases ok with
      | none => exact A.b
      | some k => exact A.b.dead k
    exact hB.keep g.size fun j X hX => by
      obtain ⟨h1, h2⟩ := live_deadO hX
      exact hoth j X h2 h1
  have hnl : ∀ k X, live (bs ++ [blk]) (deadO st.b ok ++ [.row e z n l]) k = some X → (∃ j, live bs st.b j = some X) ∨ w.heap.size ≤ X := fun k X hX => by
    rcases live_more hl hX with ⟨_, h1⟩ | ⟨_, h1⟩
    · exact .inl ⟨k, (live_deadO h1).2⟩
    · have h1 : blk.a = some X := h1
      rcases hb with h | h | h
      · obtain ⟨j, _, h2⟩ := hrow X (by rw [← h, h1])
        exact .inl ⟨j, h2⟩
      · rw [h] at h1
        cases h1
        exact .inr (Nat.le_refl _)
      · rw [h] at h1
        cases h1
  have hBk : Bk (bs ++ [blk]) (deadO st.b ok ++ [.row e z n l]) w' := hD.more ⟨own⟩ rfl fun X hX j hj => by
    have hX : blk.a = some X := hX
    obtain ⟨h1, h2⟩ := live_deadO hj
    rcases hb with h | h | h
    · obtain ⟨k, h3, h4⟩ := hrow X (by rw [← h, hX])
      exact A.b.nd j k X (h1 k h3) h2 h4
    · rw [h] at hX
      cases hX
      exact Nat.lt_irrefl _ (A.b.lt h2)
    · rw [h] at hX
      cases hX
  have hS : Stp bs (bs ++ [blk]) (lvs bs st.b) w w' := ⟨hbelow, hsame, [blk], rfl⟩
  have hce : Ce st.b (deadO st.b ok ++ [.row e z n l]) := fun j us hj => by
    rw [List.getElem?_append_left (by rw [deadO_len]; exact (List.getElem?_eq_some_iff.1 hj).1)]
    cases ok with
    | none => exact ⟨us, hj⟩
    | some k =>
      refine ⟨us, ?_⟩
      show (st.b.set k .dead)[j]? = _
      rw [List.getElem?_set_ne (fun e => by
        subst e
        obtain ⟨_, _, _, _, h1⟩ := hok k rfl
        rw [h1] at hj
        cases hj)]
      exact hj
  refine ⟨A.go hBk hS hnl, hS, ⟨fun bs0 hp hc hB => ?_, hce, hnl⟩⟩
  have s : Sty M bs (bs ++ [blk]) st.b (deadO st.b ok ++ [.row e z n l]) w w' := ⟨fun j us X hj hX => hoth j X hX fun k hk e => by
    subst e
    obtain ⟨us', h1⟩ := hc j us hj
    obtain ⟨_, _, _, _, h2⟩ := hok j hk
    rw [h2] at h1
    exact absurd h1 (by simp), hce, hnl⟩
  exact bxM_on hB hp hc s g.size
theorem own_blk {w : World} {e z n : Nat} {v : Value} {l : List Value} (h : w.ownsRow 0 e z v n l) : ∃ blk : Blk, v = .slice blk.ad n blk.c ∧ blk.a = v.ownBlock := by
  rcases h.2 with ⟨rfl, rfl⟩ | ⟨g, cap, cur, rfl, _⟩
  · exact ⟨⟨none, 0⟩, rfl, rfl⟩
  · exact ⟨⟨some g, cap⟩, rfl, rfl⟩
/-- The run of an append. -/
theorem ap_run {o : Oper} {a : Act} {w : World} {t e z n m cc : Nat} {s x : Operand} {fv : Value} {ao : Option Addr} {l l' : List Value} (he : eltS P t = some (e, z)) (hs : smallT P e = true) (ho : o.op = .call { callee := .builtin .append, args := #[s, x], argTypes := #[t, t] }) (h1 : a.eval s = fv) (h2 : a.eval x = .slice ao m cc) (own : w.ownsRow 0 e z fv n l) (hno : ao = none → m = 0 ∧ cc = 0) (hl : l'.length = m * z)
    (hc : ∀ ad, ao = some ad → ∀ j u, l'[j]? = some u → w.cell? (ad.add j) = some u) (h1c : ∀ u ∈ l', u.oneCell' = true) (hb : n + m ≤ 2147483648) :
    ∃ (blk : Blk) (w' : World), (execOp a.eval o).run P w = .ok (.value (.slice blk.ad (n + m) blk.c)) w' ∧ w'.ownsRow 0 e z (.slice blk.ad (n + m) blk.c) (n + m) (l ++ l') ∧ w.grownBy w' fv.ownBlock ∧ (blk.a = fv.ownBlock ∨ blk.a = some w.heap.size ∨ blk.a = none) := by
  obtain ⟨i, v, i1, i2, i3, i4, i5, i6⟩ := eltS_ok he
  have hby := small_ok hs i2
  cases ao with
  | none =>
    obtain ⟨rfl, rfl⟩ := hno rfl
    have hl0 : l' = [] := List.eq_nil_of_length_eq_zero (by simpa using hl)
    subst hl0
    obtain ⟨blk, e1, e2⟩ := own_blk own
    have hrun := run_append_owned_none (P := P) (w := w) 0 t o.type e i z i1 i2 fv n l own
    refine ⟨blk, w, ?_, by rw [List.append_nil, Nat.add_zero, ← e1]; exact own, ⟨rfl, rfl, rfl, Nat.le_refl _, fun _ _ _ => rfl⟩, .inl e2⟩
    rw [Nat.add_zero, ← e1]
    simp [execOp, ho, resolve, invoke, builtin, h1, h2, hrun, Result.andThen]
  | some ad =>
    obtain ⟨v', w', hr, hw, hg, _, hat⟩ := run_append_own_at (P := P) w 0 t o.type e i v z i.bytes i1 i2 i3 i4 rfl i5 i6 fv n l own ad m cc l' hl (hc ad rfl) h1c (by unfold maxLen; omega) (Nat.le_trans (Nat.mul_le_mul hb hby) (by decide)) (Nat.zero_le _)
    obtain ⟨blk, e1, e2⟩ := own_blk hw
    refine ⟨blk, w', ?_, by rw [← e1]; exact hw, hg, ?_⟩
    · rw [← e1]
      simp [execOp, ho, resolve, invoke, builtin, h1, h2, hr, Result.andThen]
    · rcases hat with h | h
      · exact .inl (e2.trans h)
      · exact .inr (.inl (e2.trans h))
theorem apO_ok {c : Cfg} {u v : SV} {e z : Nat} (h : apO P C.n c = some (u, v, e, z)) : ∃ o hd' s x t, nxt c = some (o, hd') ∧ o.op = .call { callee := .builtin .append, args := #[s, x], argTypes := #[t, t] } ∧ eltS P t = some (e, z) ∧ smallT P e = true ∧ evS c.st.s s = some u ∧ evS c.st.s x = some v ∧ dstOk C.n o = true := by
  unfold apO at h
  obtain ⟨⟨o, hd'⟩, h1, h2⟩ := Option.bind_eq_some_iff.1 h
  simp only at h2
  split at h2
  next k ho =>
    cases hb : (isApp k.callee && dstOk C.n o) with
    | false => rw [hb] at h2; cases h2
    | true =>
      rw [hb] at h2
      simp only [cond_true] at h2
      obtain ⟨b1, b2⟩ := Bool.and_eq_true_iff.1 hb
      split at h2
      next s x t t' ea et =>
        cases ht : Nat.beq t t' with
        | false => rw [ht] at h2; cases h2
        | true =>
          rw [ht] at h2
          simp only [cond_true] at h2
          have ht := Nat.eq_of_beq_eq_true ht
          subst ht
          obtain ⟨⟨e', z'⟩, h3, h4⟩ := Option.bind_eq_some_iff.1 h2
          simp only at h4
          cases hs : smallT P e' with
          | false => rw [hs] at h4; cases h4
          | true =>
            rw [hs] at h4
            simp only [cond_true] at h4
            obtain ⟨u', h5, h6⟩ := Option.bind_eq_some_iff.1 h4
            obtain ⟨v', h7, h8⟩ := Option.map_eq_some_iff.1 h6
            cases h8
            have hk : k = { callee := .builtin .append, args := #[s, x], argTypes := #[t, t] } := by
              obtain ⟨ce, ar, at'⟩ := k
              have e1 : ce = .builtin .append := by
                unfold isApp at b1
                split at b1
                · next e => exact e
                · cases b1
              have e2 : ar = #[s, x] := by apply Array.ext'; simpa using ea
              have e3 : at' = #[t, t] := by apply Array.ext'; simpa using et
              rw [e1, e2, e3]
            exact ⟨o, hd', s, x, t, h1, by rw [ho, hk], h3, hs, h5, h7, b2⟩
      · cases h2
  · cases h2
/-- What the first operand is. -/
theorem fst_ok {bs : List Blk} {st : SS} {a : Act} {w : World} (A : At C bs st a w) {e z n n' : Nat} {l : List Value} {ok : Option Nat} {u : SV} (h : fstV e z st.b u = some (n, n', l, ok)) (hn : n' = n) : w.ownsRow 0 e z (u.den bs) n l ∧ (∀ X, (u.den bs).ownBlock = some X → ∃ k, ok = some k ∧ live bs st.b k = some X) ∧ ∀ k, ok = some k → ∃ e z n l, st.b[k]? = some (.row e z n l) := by
  subst hn
  unfold fstV at h
  split at h
  · split at h
    · cases h
      simp only [SV.den]
      exact ⟨World.ownsRow_nil w 0 e z, fun X hX => (by cases hX), fun k hk => (by cases hk)⟩
    · cases h
  next k n =>
    split at h
    next e' z' n2 l2 hk =>
      cases hb : (Nat.beq e e' && Nat.beq z z') with
      | false => rw [hb] at h; cases h
      | true =>
        rw [hb] at h
        cases h
        obtain ⟨b1, b2⟩ := Bool.and_eq_true_iff.1 hb
        have b1 := Nat.eq_of_beq_eq_true b1
        have b2 := Nat.eq_of_beq_eq_true b2
        subst b1 b2
        simp only [SV.den]
        refine ⟨(A.b.b k _ hk).o, fun X hX => ⟨k, rfl, ?_⟩, fun k' hk' => by cases hk'; exact ⟨_, _, _, _, hk⟩⟩
        rw [ownBlock_ad] at hX
        unfold live
        rw [hk]
        exact hX
    · cases h
  · cases h
theorem own_cells {w : World} {e z n : Nat} {blk : Blk} {l : List Value} (h : w.ownsRow 0 e z (.slice blk.ad n blk.c) n l) : (blk.ad = none → n = 0 ∧ blk.c = 0) ∧ ∀ ad, blk.ad = some ad → ∀ j u, l[j]? = some u → w.cell? (ad.add j) = some u := by
  constructor
  · intro e
    rcases h.2 with ⟨h1, h2⟩ | ⟨g, cap, cur, h1, _⟩
    · rw [e] at h1
      simp only [Value.slice.injEq, true_and] at h1
      exact h1
    · rw [e] at h1
      simp at h1
  · intro ad hE j u hu
    have : ∃ g, ad = ⟨g, 0, none⟩ ∧ blk.a = some g := by
      unfold Blk.ad at hE
      cases e : blk.a with
      | none => rw [e] at hE; cases hE
      | some g => rw [e] at hE; exact ⟨g, (Option.some.inj hE).symm, rfl⟩
    obtain ⟨g, rfl, hg⟩ := this
    exact h.cells (g := g) (by rw [ownBlock_ad]; exact hg) j u hu
/-- 'append(row, row...)'. -/
theorem app {c : Cfg} {n m n' : Nat} {l l2 l' : List Value} (hnl : n + m = n' ∧ l ++ l2 = l') (hm : P.follows .mixedOrders = true) (h : apV P C.n c = some (n, n, m, m, true, l, l2)) (hb : n' ≤ 2147483648) (H : Runs P C Q (go P C.n 9999 (aftA P C.n c n' l'))) : Runs P C Q c := by
  have H := go_ok hm _ H
  obtain ⟨rfl, rfl⟩ := hnl
  unfold apV at h
  obtain ⟨⟨u, v, e, z⟩, h1, h2⟩ := Option.bind_eq_some_iff.1 h
  obtain ⟨⟨f1, f2, f3, f4⟩, h3, h4⟩ := Option.bind_eq_some_iff.1 h2
  obtain ⟨⟨s1, s2, s3⟩, h5, h6⟩ := Option.map_eq_some_iff.1 h4
  simp only [Prod.mk.injEq] at h6
  obtain ⟨rfl, rfl, rfl, rfl, hone, rfl, rfl⟩ := h6
  obtain ⟨o, hd', s, x, t, n1, n2, n3, n4, n5, n6, n7⟩ := apO_ok h1
  unfold aftA at H
  rw [h1] at H
  simp only [Option.bind_some, h3, Option.map_some] at H
  unfold aft at H
  rw [n1] at H
  refine core n1 fun bs a w A K Q' hK => ?_
  obtain ⟨p1, p2, p3⟩ := fst_ok A h3 rfl
  have hsv : ∃ k', v = .row k' s2 ∧ c.st.b[k']? = some (.row e z s2 s3) := by
    simp only at h5
    unfold sndV at h5
    split at h5
    next k' n' =>
      split at h5
      next e' z' n2 l2 hk =>
        cases hbb : (Nat.beq e e' && Nat.beq z z') with
        | false => rw [hbb] at h5; cases h5
        | true =>
          rw [hbb] at h5
          cases h5
          obtain ⟨b1, b2⟩ := Bool.and_eq_true_iff.1 hbb
          rw [Nat.eq_of_beq_eq_true b1, Nat.eq_of_beq_eq_true b2]
          exact ⟨k', rfl, hk⟩
      · cases h5
    · cases h5
  obtain ⟨k', rfl, hk'⟩ := hsv
  have own2 : w.ownsRow 0 e z (.slice (bkA bs k').ad s2 (bkA bs k').c) s2 s3 := (A.b.b k' _ hk').o
  obtain ⟨q1, q2⟩ := own_cells own2
  have ev := (evS_ok A.f n6).1
  simp only [SV.den] at ev
  obtain ⟨blk, w', r1, r2, r3, r4⟩ := ap_run (w := w) n3 n4 n2 (evS_ok A.f n5).1 ev p1 q1 own2.1 q2 (fun u hu => List.all_eq_true.1 hone u hu) hb
  obtain ⟨A', t1, t2⟩ := A.app (M := mN hd') f4 _ blk p2 p3 r3 r2 r4
  unfold Oper.wp
  rw [r1, Oper.upon_value]
  have hput := A'.sput (d := o.dst) (dst_lt n7) (x := .row c.st.b.length (f2 + s2)) (by simp only [okB, List.length_append, List.length_singleton, A.b.l]; exact Nat.ble_eq_true_of_le (Nat.le_refl _))
  simp only [SV.den] at hput
  rw [← A.b.l, bkA_last] at hput
  rw [A.b.l] at hput
  exact hK _ _ w' _ hput t1 t2 H
/-- 'append(row, x...)' of what lies elsewhere. -/
def apF (P : Program) (n : Nat) (c : Cfg) : Option (Nat × Nat × Option Addr × Nat × Nat × Nat × List Value) := (apO P n c).bind fun q => (fstV q.2.2.1 q.2.2.2 c.st.b q.1).bind fun f => match q.2.1 with
  | .val v => match v with
    | .slice ao m cc => some (f.1, f.2.1, ao, m, cc, q.2.2.2, f.2.2.1)
    | _ => none
  | _ => none
theorem appF {c : Cfg} {n m n' z : Nat} {cc : Nat} {ao : Option Addr} {l cells l' : List Value} (hnl : n + m = n' ∧ l ++ cells = l') (hm : P.follows .mixedOrders = true) (h : apF P C.n c = some (n, n, ao, m, cc, z, l)) (hb : n' ≤ 2147483648) (hno : ao = none → m = 0 ∧ cc = 0) (hl : cells.length = m * z)
    (hc : ∀ w, (∀ x ∈ c.st.m, x.L w) → ∀ ad, ao = some ad → ∀ j u, cells[j]? = some u → w.cell? (ad.add j) = some u) (h1c : ∀ u ∈ cells, u.oneCell' = true) (H : Runs P C Q (go P C.n 9999 (aftA P C.n c n' l'))) : Runs P C Q c := by
  have H := go_ok hm _ H
  obtain ⟨rfl, rfl⟩ := hnl
  unfold apF at h
  obtain ⟨⟨u, v, e, z'⟩, h1, h2⟩ := Option.bind_eq_some_iff.1 h
  obtain ⟨⟨f1, f2, f3, f4⟩, h3, h4⟩ := Option.bind_eq_some_iff.1 h2
  simp only at h4
  have hv : v = .val (.slice ao m cc) ∧ f1 = n ∧ f2 = n ∧ z' = z ∧ f3 = l := by
    split at h4
    · split at h4
      · simp only [Option.some.injEq, Prod.mk.injEq] at h4
        obtain ⟨rfl, rfl, rfl, rfl, rfl, rfl, rfl⟩ := h4
        exact ⟨rfl, rfl, rfl, rfl, rfl⟩
      · cases h4
    · cases h4
  obtain ⟨rfl, rfl, rfl, rfl, rfl⟩ := hv
  obtain ⟨o, hd', s, x, t, n1, n2, n3, n4, n5, n6, n7⟩ := apO_ok h1
  unfold aftA at H
  rw [h1] at H
  simp only [Option.bind_some, h3, Option.map_some] at H
  unfold aft at H
  rw [n1] at H
  refine core n1 fun bs a w A K Q' hK => ?_
  obtain ⟨p1, p2, p3⟩ := fst_ok A h3 rfl
  have ev := (evS_ok A.f n6).1
  simp only [SV.den] at ev
  obtain ⟨blk, w', r1, r2, r3, r4⟩ := ap_run (w := w) n3 n4 n2 (evS_ok A.f n5).1 ev p1 hno hl (hc w fun m hm => (A.m m hm).l) h1c hb
  obtain ⟨A', t1, t2⟩ := A.app (M := mN hd') f4 _ blk p2 p3 r3 r2 r4
  unfold Oper.wp
  rw [r1, Oper.upon_value]
  have hput := A'.sput (d := o.dst) (dst_lt n7) (x := .row c.st.b.length (f2 + m)) (by simp only [okB, List.length_append, List.length_singleton, A.b.l]; exact Nat.ble_eq_true_of_le (Nat.le_refl _))
  simp only [SV.den] at hput
  rw [← A.b.l, bkA_last] at hput
  rw [A.b.l] at hput
  exact hK _ _ w' _ hput t1 t2 H
end
end Ev
end Go.Proofs.Ytkjpbjgepnbibaa
