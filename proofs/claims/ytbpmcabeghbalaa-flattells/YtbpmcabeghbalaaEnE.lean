/- The engine: loops; slots told anew. -/
import Derived.Test.YtbpmcabeghbalaaEnD
namespace Go.Proofs.Ytbpmcabeghbalaa
namespace En
open Go.RowKit
set_option maxRecDepth 100000

def slo (ks : List Nat) (st : SS) : List (Nat × SV) := ks.filterMap fun k => (st.s.lookup k).map fun x => (k, x)
def loopOf (c : Cfg) : Option (Code × List It) :=
  match c.hd.k, c.r with
  | 0, x :: r => match x.k, x.c with
    | 0, .loop b => some (b, r)
    | _, _ => none
  | _, _ => none
def lpB (c : Cfg) : Code := match loopOf c with | some p => p.1 | none => .skip
def lpR (c : Cfg) : List It := match loopOf c with | some p => p.2 | none => []
def headI (c : Cfg) : Option (Act → World → Prop) :=
  match c.hd.k, c.r with
  | 0, x :: _ => match x.k with
    | 2 => some x.I
    | _ => none
  | _, _ => none
section
variable {P : Program} {C : Cx} {Q : Exit → Act → World → Prop}
theorem lookup_mem {α : Type} {k : Nat} {v : α} : ∀ {l : List (Nat × α)}, l.lookup k = some v → (k, v) ∈ l
  | [], h => by cases h
  | p :: r, h => by
    rw [List.lookup_cons] at h
    cases e : (k == p.1) with
    | true =>
      rw [e] at h
      have : k = p.1 := by simpa using e
      cases h
      rw [this]
      exact List.mem_cons_self
    | false => rw [e] at h; exact List.mem_cons_of_mem _ (lookup_mem h)
/-- Less is told. -/
theorem At.sub {bs : List Nat} {st st' : SS} {a : Act} {w : World} (A : At C bs st a w) (h : (st'.s.map fun p => st.s.lookup p.1) = st'.s.map fun p => some p.2) (hb : st'.b = st.b) (hm : st'.m = st.m) : At C bs st' a w := by
  refine ⟨⟨fun i x hx => ?_, A.f.d, A.f.z⟩, by rw [hb]; exact A.b, by rw [hm]; exact A.m, A.t⟩
  have hmem := lookup_mem hx
  obtain ⟨k, hk, he⟩ := List.mem_iff_getElem.1 hmem
  have h1 := congrArg (fun l => l[k]?) h
  simp only [List.getElem?_map, List.getElem?_eq_getElem hk, Option.map_some, he] at h1
  rw [hb]
  exact A.f.g i x (Option.some.inj h1)
theorem take_getD {bs : List Nat} {m k : Nat} (hk : k < m) : (bs.take m).getD k 0 = bs.getD k 0 := by
  rw [List.getD_eq_getElem?_getD, List.getD_eq_getElem?_getD, List.getElem?_take_of_lt hk]
/-- Boxes that are wanted no more are left out. -/
theorem At.cut {bs : List Nat} {st st' : SS} {a : Act} {w : World} (A : At C bs st a w) (m j : Nat) (h : (st'.s.map fun p => st.s.lookup p.1) = st'.s.map fun p => some p.2) (hk : (st'.s.all fun p => !isB p.2 || Nat.blt p.2.k m) = true) (h0 : Nat.ble C.bs0.length m = true) (hb : st'.b = st.b.take m) (hm : st'.m = st.m.drop j) : At C (bs.take m) st' a w := by
  have hlen : (st.b.take m).length = min m st.b.length := List.length_take
  refine ⟨⟨fun i x hx => ?_, A.f.d, A.f.z⟩, ?_, fun x hx => ?_, ?_⟩
  · have hmem := lookup_mem hx
    obtain ⟨k, hk', he⟩ := List.mem_iff_getElem.1 hmem
    have h1 := congrArg (fun l => l[k]?) h
    simp only [List.getElem?_map, List.getElem?_eq_getElem hk', Option.map_some, he] at h1
    obtain ⟨g1, g2⟩ := A.f.g i x (Option.some.inj h1)
    have hkx : isB x = true → x.k < m := fun e => by
      have := List.all_eq_true.1 hk _ hmem
      simp only [e, Bool.not_true, Bool.false_or] at this
      exact Nat.le_of_ble_eq_true this
    refine ⟨?_, ⟨fun e => ?_, g2.q, g2.u⟩⟩
    · rw [g1]
      unfold SV.den
      cases hp : isB x with
      | false => rfl
      | true => simp only [cond_true]; rw [take_getD (hkx hp)]
    · rw [hb, hlen]
      have := g2.k e
      have := hkx e
      omega
  · rw [hb]
    refine ⟨by rw [List.length_take, List.length_take, A.b.l], fun k vs hv => ?_, fun i j hi hj hij => ?_⟩
    · have hkm : k < m := by
        have := (List.getElem?_eq_some_iff.1 hv).1
        rw [hlen] at this
        omega
      rw [List.getElem?_take_of_lt hkm] at hv
      rw [take_getD hkm]
      exact A.b.b k vs hv
    · rw [List.length_take] at hi hj
      rw [take_getD (by omega), take_getD (by omega)]
      exact A.b.nd i j (by omega) (by omega) hij
  · rw [hm] at hx
    have hx := List.mem_of_mem_drop hx
    exact ⟨(A.m x hx).1, fun b hb => (A.m x hx).2 b (List.mem_of_mem_take hb)⟩
  · obtain ⟨nb, e, hn⟩ := A.t.n
    refine ⟨A.t.bl, A.t.k, nb.take (m - C.bs0.length), ?_, fun b hb => hn b (List.mem_of_mem_take hb)⟩
    have := Nat.le_of_ble_eq_true h0
    rw [e, List.take_append, List.take_of_length_le this]
/-- Facts that are wanted no more are left out. -/
theorem At.subM {bs : List Nat} {st : SS} {a : Act} {w : World} (A : At C bs st a w) {ms : List Mf} (h : ∃ l, st.m = l ++ ms) : At C bs ⟨st.s, st.b, ms⟩ a w := by
  obtain ⟨l, hl⟩ := h
  exact ⟨A.f, A.b, fun x hx => A.m x (by rw [hl]; exact List.mem_append_right _ hx), A.t⟩
theorem loop {α : Type} {c : Cfg} (Inv : α → Prop) (μ : α → Nat) (F : α → SS → SS) (x0 : α) (hm : P.follows .mixedOrders = true) (hI : Inv x0) (h : (loopOf c).isSome = true)
    (hs : ((F x0 c.st).s.map fun p => c.st.s.lookup p.1) = (F x0 c.st).s.map fun p => some p.2) (hb : (F x0 c.st).b = c.st.b) (hmm : (F x0 c.st).m = c.st.m)
    (round : ∀ x, Inv x → ∀ I : Act → World → Prop, (∀ y bs a w, Inv y → μ y < μ x → At C bs (F y c.st) a w → I a w) → Runs P C Q (go P C.n 9999 ⟨h0, co (lpB c) :: lp I :: lpR c, F x c.st⟩)) : Runs P C Q c := by
  refine ⟨?_⟩
  intro bs a w A
  have A0 := A.sub (st' := F x0 c.st) hs hb hmm
  unfold loopOf at h
  split at h
  next x r hk hr =>
    split at h
    next b hx hc =>
      rw [hk, hr]
      show ex P Q (x :: r) .normal a w
      unfold ex
      rw [hx]
      show x.c.wp P _ a w
      rw [hc]
      have hB : lpB c = b := by unfold lpB loopOf; rw [hk, hr]; simp only [hx, hc]
      have hR : lpR c = r := by unfold lpR loopOf; rw [hk, hr]; simp only [hx, hc]
      rw [hB, hR] at round
      have hmin : ∀ a w, (∃ y bs, Inv y ∧ At C bs (F y c.st) a w) → ∃ y, (∃ bs, Inv y ∧ At C bs (F y c.st) a w) ∧ ∀ z, (∃ bs, Inv z ∧ At C bs (F z c.st) a w) → μ y ≤ μ z := by
        intro a w ⟨y, bs, h1, h2⟩
        have key : ∀ n y, μ y = n → (∃ bs, Inv y ∧ At C bs (F y c.st) a w) → ∃ y, (∃ bs, Inv y ∧ At C bs (F y c.st) a w) ∧ ∀ z, (∃ bs, Inv z ∧ At C bs (F z c.st) a w) → μ y ≤ μ z := by
          intro n
          induction n using Nat.strongRecOn with
          | _ n ih =>
            intro y hy hA
            by_cases hlt : ∃ z, (∃ bs, Inv z ∧ At C bs (F z c.st) a w) ∧ μ z < n
            · obtain ⟨z, hz, hzn⟩ := hlt
              exact ih (μ z) hzn z rfl hz
            · refine ⟨y, hA, fun z hz => ?_⟩
              rcases Nat.lt_or_ge (μ z) (μ y) with hl | hl
              · exact absurd ⟨z, hz, by omega⟩ hlt
              · exact hl
        exact key _ y rfl ⟨bs, h1, h2⟩
      refine wp_loop (fun a w => ∃ y bs, Inv y ∧ At C bs (F y c.st) a w) (fun a w => @dite _ (∃ y bs, Inv y ∧ At C bs (F y c.st) a w) (Classical.propDecidable _) (fun h => μ (Classical.choose (hmin a w h))) fun _ => 0) ⟨x0, bs, hI, A0⟩ ?_
      intro a w hIw
      obtain ⟨⟨bs1, q1, q2⟩, q3⟩ := Classical.choose_spec (hmin a w hIw)
      have hr1 := (go_ok hm _ (round (Classical.choose (hmin a w hIw)) q1 (fun a' w' => (∃ y bs, Inv y ∧ At C bs (F y c.st) a' w') ∧ @dite _ (∃ y bs, Inv y ∧ At C bs (F y c.st) a' w') (Classical.propDecidable _) (fun h => μ (Classical.choose (hmin a' w' h))) (fun _ => 0) < μ (Classical.choose (hmin a w hIw))) (fun y bs' a' w' hy hlt hA => by
        refine ⟨⟨y, bs', hy, hA⟩, ?_⟩
        rw [dif_pos ⟨y, bs', hy, hA⟩]
        exact Nat.lt_of_le_of_lt ((Classical.choose_spec (hmin a' w' ⟨y, bs', hy, hA⟩)).2 y ⟨bs', hy, hA⟩) hlt))).o bs1 a w q2
      rw [dif_pos hIw]
      refine Code.wp_mono ?_ hr1
      intro e a' w' q
      cases e <;> exact q
    · cases h
  · cases h
theorem again {c : Cfg} (I : Act → World → Prop) (h : headI c = some I) (H : ∀ bs a w, At C bs c.st a w → I a w) : Runs P C Q c := by
  refine ⟨?_⟩
  intro bs a w A
  unfold headI at h
  split at h
  next x r hk hr =>
    split at h
    next hx =>
      cases h
      rw [hk, hr]
      show ex P Q (x :: r) .normal a w
      unfold ex
      rw [hx]
      exact H bs a w A
    · cases h
  · cases h
theorem wrapI {x : Int} (h1 : -9223372036854775808 ≤ x) (h2 : x < 9223372036854775808) : IntKind.i64.wrap x = x := by
  rw [IntKind.wrap_i64]
  omega
/-- A slot told anew. -/
theorem reV {c : Cfg} (i : Nat) {v : Value} (v' : Value) (hm : P.follows .mixedOrders = true) (h : (c.st.s.lookup i).bind plain = some v) (e : v = v') (H : Runs P C Q (go P C.n 9999 ⟨c.hd, c.r, ⟨(i, vv v') :: c.st.s, c.st.b, c.st.m⟩⟩)) : Runs P C Q c := by
  obtain ⟨y, h1, h2⟩ := Option.bind_eq_some_iff.1 h
  have H := go_ok hm _ H
  refine ⟨?_⟩
  intro bs a w A
  exact H.o bs a w (A.same h1 (by rw [plain_ok h2]; exact e.symm) (vv_ok _ _))
/-- A number that does not wrap. -/
theorem reW {c : Cfg} (i : Nat) (x : Int) (hm : P.follows .mixedOrders = true) (h : (c.st.s.lookup i).bind plain = some (.int .i64 (IntKind.i64.wrap x))) (h1 : -9223372036854775808 ≤ x) (h2 : x < 9223372036854775808) (H : Runs P C Q (go P C.n 9999 ⟨c.hd, c.r, ⟨(i, vv (.int .i64 x)) :: c.st.s, c.st.b, c.st.m⟩⟩)) : Runs P C Q c := reV i _ hm h (by rw [wrapI h1 h2]) H
end
end En
end Go.Proofs.Ytbpmcabeghbalaa
