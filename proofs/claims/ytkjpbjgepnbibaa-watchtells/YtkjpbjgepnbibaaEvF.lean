/- The second engine: loops, cuts, boxes in another order, things told anew. -/
import Derived.Test.YtkjpbjgepnbibaaEvE
namespace Go.Proofs.Ytkjpbjgepnbibaa
namespace Ev
open Go.RowKit
set_option maxRecDepth 100000

def slo (ks : List Nat) (st : SS) : List (Nat × SV) := ks.filterMap fun k => (st.s.lookup k).map fun x => (k, x)
def loopOf (c : Cfg) : Option (Code × List It) :=
  match c.hd.k, c.r with
  | 0, x :: r => match x.k, x.c with
    | 0, .loop b => some (b, r)
    | _, _ => none
  | _, _ => none
def lpB (c : Cfg) : Code := match loopOf c with | some p => p.1 | none => .skip
def lpR (c : Cfg) : List It := match loopOf c with | some p => p.2 | none => []
def headI (c : Cfg) : Option (Act → World → Prop) :=
  match c.hd.k, c.r with
  | 0, x :: _ => match x.k with
    | 2 => some x.I
    | _ => none
  | _, _ => none
def isBlk (c : Cfg) : Bool :=
  match c.hd.k, c.r with
  | 0, x :: _ => match x.k, x.c with
    | 0, .block _ _ => true
    | _, _ => false
  | _, _ => false
/-- As far as the next block. -/
def goB (P : Program) (n : Nat) : Nat → Cfg → Cfg
  | 0, c => c
  | f + 1, c => bif isBlk c then c else match step P n c with
    | some c' => goB P n f c'
    | none => c
def isDrw (c : Cfg) : Bool :=
  match c.hd.k, c.r with
  | 0, x :: _ => match x.k, x.c with
    | 0, .region _ _ true => true
    | _, _ => false
  | _, _ => false
/-- As far as the next region that draws. -/
def goD (P : Program) (n : Nat) : Nat → Cfg → Cfg
  | 0, c => c
  | f + 1, c => bif isDrw c then c else match step P n c with
    | some c' => goD P n f c'
    | none => c
mutual
/-- Boxes by other numbers. -/
def ren (ρ : Nat → Nat) : SV → SV
  | .ptr k o => .ptr (ρ k) o
  | .row k n => .row (ρ k) n
  | .agg l => .agg (renL ρ l)
  | .tup l => .tup (renL ρ l)
  | .fn g x y => .fn g (renL ρ x) (renL ρ y)
  | x => x
def renL (ρ : Nat → Nat) : List SV → List SV
  | [] => []
  | x :: r => ren ρ x :: renL ρ r
end
def renX (ρ : Nat → Nat) : Bx → Bx
  | .cells l => .cells (renL ρ l)
  | x => x
mutual
theorem ren_den {ρ : Nat → Nat} {bs bs' : List Blk} (h : ∀ j, j < bs.length → bkA bs' (ρ j) = bkA bs j) : ∀ {x : SV}, okB bs.length x = true → (ren ρ x).den bs' = x.den bs
  | .val _, _ => by simp only [ren, SV.den]
  | .num _, _ => by simp only [ren, SV.den]
  | .bit _, _ => by simp only [ren, SV.den]
  | .non, _ => by simp only [ren, SV.den]
  | .ptr k o, hk => by
    simp only [okB] at hk
    simp only [ren, SV.den]
    rw [h k (Nat.le_of_ble_eq_true hk)]
  | .row k n, hk => by
    simp only [okB] at hk
    simp only [ren, SV.den]
    rw [h k (Nat.le_of_ble_eq_true hk)]
  | .agg l, hl => by
    simp only [okB] at hl
    simp only [ren, SV.den]
    rw [renL_den h hl]
  | .tup l, hl => by
    simp only [okB] at hl
    simp only [ren, SV.den]
    rw [renL_den h hl]
  | .fn g x y, hl => by
    simp only [okB, Bool.and_eq_true] at hl
    simp only [ren, SV.den]
    rw [renL_den h hl.1, renL_den h hl.2]
theorem renL_den {ρ : Nat → Nat} {bs bs' : List Blk} (h : ∀ j, j < bs.length → bkA bs' (ρ j) = bkA bs j) : ∀ {l : List SV}, okL bs.length l = true → denL bs' (renL ρ l) = denL bs l
  | [], _ => by simp only [renL, denL]
  | x :: r, hl => by
    simp only [okL, Bool.and_eq_true] at hl
    simp only [renL, denL]
    rw [ren_den h hl.1, renL_den h hl.2]
end
mutual
theorem ren_ok {ρ : Nat → Nat} {m m' : Nat} (h : ∀ j, j < m → ρ j < m') : ∀ {x : SV}, okB m x = true → okB m' (ren ρ x) = true
  | .val _, _ => by simp only [ren, okB]
  | .num _, _ => by simp only [ren, okB]
  | .bit _, _ => by simp only [ren, okB]
  | .non, _ => by simp only [ren, okB]
  | .ptr k o, hk => by
    simp only [okB] at hk
    simp only [ren, okB]
    exact Nat.ble_eq_true_of_le (h k (Nat.le_of_ble_eq_true hk))
  | .row k n, hk => by
    simp only [okB] at hk
    simp only [ren, okB]
    exact Nat.ble_eq_true_of_le (h k (Nat.le_of_ble_eq_true hk))
  | .agg l, hl => by
    simp only [okB] at hl
    simp only [ren, okB]
    exact renL_ok h hl
  | .tup l, hl => by
    simp only [okB] at hl
    simp only [ren, okB]
    exact renL_ok h hl
  | .fn g x y, hl => by
    simp only [okB, Bool.and_eq_true] at hl
    simp only [ren, okB, Bool.and_eq_true]
    exact ⟨renL_ok h hl.1, renL_ok h hl.2⟩
theorem renL_ok {ρ : Nat → Nat} {m m' : Nat} (h : ∀ j, j < m → ρ j < m') : ∀ {l : List SV}, okL m l = true → okL m' (renL ρ l) = true
  | [], _ => by simp only [renL, okL]
  | x :: r, hl => by
    simp only [okL, Bool.and_eq_true] at hl
    simp only [renL, okL, Bool.and_eq_true]
    exact ⟨ren_ok h hl.1, renL_ok h hl.2⟩
end
theorem renX_bl (ρ : Nat → Nat) (x : Bx) : (renX ρ x).bl = x.bl := by
  cases x <;> rfl
theorem renX_at {ρ : Nat → Nat} {bs bs' : List Blk} {w : World} {b : Blk} {x : Bx} (h : ∀ j, j < bs.length → bkA bs' (ρ j) = bkA bs j) (hok : okX bs.length x = true) : Bx.at w bs' b (renX ρ x) ↔ Bx.at w bs b x := by
  cases x with
  | dead => exact ⟨fun _ => ⟨trivial⟩, fun _ => ⟨trivial⟩⟩
  | cells l =>
    have e := renL_den h hok
    constructor
    · rintro ⟨X, h1, h2⟩
      exact ⟨⟨X, h1, by rw [← e]; exact h2⟩⟩
    · rintro ⟨X, h1, h2⟩
      exact ⟨⟨X, h1, by rw [e]; exact h2⟩⟩
  | row e z n l => exact ⟨fun h => ⟨h.o⟩, fun h => ⟨h.o⟩⟩
theorem renX_ok {ρ : Nat → Nat} {m m' : Nat} (h : ∀ j, j < m → ρ j < m') {x : Bx} (hx : okX m x = true) : okX m' (renX ρ x) = true := by
  cases x with
  | cells l => exact renL_ok h hx
  | _ => rfl
def kA (ks : List Nat) (j : Nat) : Nat := ks.getD j 0
def nodupN : List Nat → Bool
  | [] => true
  | x :: r => !r.any (Nat.beq x) && nodupN r
theorem nodupN_at : ∀ {ks : List Nat}, nodupN ks = true → ∀ i j, i < ks.length → j < ks.length → i ≠ j → kA ks i ≠ kA ks j
  | [], _, i, j, hi, _, _ => by simp at hi
  | x :: r, h, i, j, hi, hj, hij => by
    unfold nodupN at h
    obtain ⟨h1, h2⟩ := Bool.and_eq_true_iff.1 h
    have hx : ∀ k, k < r.length → kA r k ≠ x := fun k hk e => by
      have : r.any (Nat.beq x) = true := List.any_eq_true.2 ⟨r[k], List.getElem_mem hk, by
        unfold kA at e
        rw [List.getD_eq_getElem?_getD, List.getElem?_eq_getElem hk, Option.getD_some] at e
        rw [e]
        exact Nat.beq_refl x⟩
      rw [this] at h1
      cases h1
    cases i with
    | zero => cases j with
      | zero => exact absurd rfl hij
      | succ j => exact fun e => hx j (by simpa using hj) (by simpa [kA] using e.symm)
    | succ i => cases j with
      | zero => exact fun e => hx i (by simpa using hi) (by simpa [kA] using e)
      | succ j =>
        have := nodupN_at h2 i j (by simpa using hi) (by simpa using hj) (fun e => hij (by rw [e]))
        simpa [kA] using this
/-- What names no box, as a value. -/
def norm (x : SV) : SV := match plain x with | some v => .val v | none => x
def normX : Bx → Bx
  | .cells l => .cells (l.map norm)
  | x => x
theorem norm_den (bs : List Blk) (x : SV) : (norm x).den bs = x.den bs := by
  unfold norm
  split
  next v e => rw [plain_ok e]; simp only [SV.den]
  · rfl
theorem normL_den (bs : List Blk) (l : List SV) : denL bs (l.map norm) = denL bs l := by
  rw [denL_map, denL_map, List.map_map]
  exact List.map_congr_left fun x _ => norm_den bs x
theorem norm_ok {m : Nat} {x : SV} (h : okB m x = true) : okB m (norm x) = true := by
  unfold norm
  split
  · simp only [okB]
  · exact h
theorem normX_bl (x : Bx) : (normX x).bl = x.bl := by cases x <;> rfl
theorem normX_at {w : World} {bs : List Blk} {b : Blk} {x : Bx} : Bx.at w bs b (normX x) ↔ Bx.at w bs b x := by
  cases x with
  | cells l =>
    constructor
    · rintro ⟨X, h1, h2⟩
      exact ⟨⟨X, h1, by rw [← normL_den]; exact h2⟩⟩
    · rintro ⟨X, h1, h2⟩
      exact ⟨⟨X, h1, by rw [normL_den]; exact h2⟩⟩
  | dead => exact Iff.rfl
  | row _ _ _ _ => exact Iff.rfl
/-- These boxes out of those that there are: where they stand now (ks), what they hold by their own numbers. -/
structure Sel (bs : List Blk) (B : List Bx) (ks : List Nat) (B' : List Bx) : Prop where
  e : (ks.map fun k => B[k]?.map normX) = B'.map fun x => some (normX (renX (kA ks) x))
  d : nodupN ks = true
  k : B'.all (okX ks.length) = true
theorem Sel.len {bs : List Blk} {B B' : List Bx} {ks : List Nat} (h : Sel bs B ks B') : ks.length = B'.length := by
  have := congrArg List.length h.e
  simpa using this
theorem Sel.at {bs : List Blk} {B B' : List Bx} {ks : List Nat} (h : Sel bs B ks B') {j : Nat} {x : Bx} (hx : B'[j]? = some x) : ∃ b, B[kA ks j]? = some b ∧ normX b = normX (renX (kA ks) x) := by
  have h1 := congrArg (fun l => l[j]?) h.e
  simp only [List.getElem?_map, hx, Option.map_some] at h1
  cases e : ks[j]? with
  | none => rw [e] at h1; cases h1
  | some k =>
    rw [e] at h1
    have : kA ks j = k := by unfold kA; rw [List.getD_eq_getElem?_getD, e]; rfl
    rw [this]
    obtain ⟨b, h2, h3⟩ := Option.map_eq_some_iff.1 (Option.some.inj h1)
    exact ⟨b, h2, h3⟩
theorem bl_of_norm {x y : Bx} (h : normX x = normX y) : x.bl = y.bl := by rw [← normX_bl x, h, normX_bl]
theorem at_of_norm {w : World} {bs : List Blk} {b : Blk} {x y : Bx} (h : normX x = normX y) (hx : Bx.at w bs b x) : Bx.at w bs b y := normX_at.1 (h ▸ normX_at.2 hx)
theorem kA_bk {bs : List Blk} {ks : List Nat} {j : Nat} (hj : j < ks.length) : bkA (ks.map fun k => bkA bs k) j = bkA bs (kA ks j) := by
  unfold kA
  conv => lhs; unfold bkA
  rw [List.getD_eq_getElem?_getD, List.getElem?_map, List.getD_eq_getElem?_getD, List.getElem?_eq_getElem hj]
  rfl
theorem Sel.live {bs : List Blk} {B B' : List Bx} {ks : List Nat} (h : Sel bs B ks B') {j X : Nat} (hX : live (ks.map fun k => bkA bs k) B' j = some X) : live bs B (kA ks j) = some X := by
  have hj := live_lt hX
  unfold Ev.live at hX ⊢
  obtain ⟨x, h1, h2⟩ := Option.bind_eq_some_iff.1 hX
  obtain ⟨b, h3, h4⟩ := h.at h1
  rw [h3]
  rw [kA_bk (by rw [h.len]; exact hj)] at h2
  have := bl_of_norm h4
  rw [renX_bl] at this
  simpa [this] using h2
theorem Sel.bk {bs : List Blk} {B B' : List Bx} {ks : List Nat} {w : World} (h : Sel bs B ks B') (hB : Bk bs B w) : Bk (ks.map fun k => bkA bs k) B' w := by
  have hl := h.len
  refine ⟨by rw [List.length_map]; exact hl, fun j x hx => ?_, fun x hx => by rw [List.length_map]; exact List.all_eq_true.1 h.k x hx, fun i j X hij hi hj => ?_⟩
  · have hj : j < ks.length := by rw [hl]; exact (List.getElem?_eq_some_iff.1 hx).1
    obtain ⟨b, h3, h4⟩ := h.at hx
    have h1 := at_of_norm h4 (hB.b _ _ h3)
    rw [kA_bk hj]
    exact (renX_at (bs := ks.map fun k => bkA bs k) (fun j hj => (kA_bk (by simpa using hj)).symm) (by rw [List.length_map]; exact List.all_eq_true.1 h.k x (List.mem_of_getElem? hx))).1 h1
  · exact hB.nd _ _ X (nodupN_at h.d i j (by rw [hl]; exact live_lt hi) (by rw [hl]; exact live_lt hj) hij) (h.live hi) (h.live hj)
/-- Facts out of those that there are. -/
theorem facts_at {st : List Mf} {fs : List Nat} {ms : List Mf} (h : (fs.map fun k => st[k]?) = ms.map some) : ∀ m ∈ ms, m ∈ st := fun m hm => by
  obtain ⟨j, hj, he⟩ := List.mem_iff_getElem.1 hm
  have h1 := congrArg (fun l => l[j]?) h
  simp only [List.getElem?_map, List.getElem?_eq_getElem hj, Option.map_some, he] at h1
  cases e : fs[j]? with
  | none => rw [e] at h1; cases h1
  | some k =>
    rw [e] at h1
    exact List.mem_of_getElem? (Option.some.inj h1)
section
variable {P : Program} {C : Cx} {Q : Exit → Act → World → Prop}
theorem lookup_mem {α : Type} {k : Nat} {v : α} : ∀ {l : List (Nat × α)}, l.lookup k = some v → (k, v) ∈ l
  | [], h => by cases h
  | p :: r, h => by
    rw [List.lookup_cons] at h
    cases e : (k == p.1) with
    | true =>
      rw [e] at h
      have : k = p.1 := by simpa using e
      cases h
      rw [this]
      exact List.mem_cons_self
    | false => rw [e] at h; exact List.mem_cons_of_mem _ (lookup_mem h)
/-- Told anew: these slots, these boxes (where they stand now), these facts; a slot by its number among them. -/
structure Tell (c0 : List Blk) (st : SS) (ks : List Nat) (fs : List Nat) (st' : SS) : Prop where
  s : (st'.s.map fun p => (st.s.lookup p.1).map norm) = st'.s.map fun p => some (norm (ren (kA ks) p.2))
  k : (st'.s.all fun p => okB ks.length p.2) = true
  b : Sel c0 st.b ks st'.b
  m : (fs.map fun k => st.m[k]?) = st'.m.map some
theorem At.tell {bs : List Blk} {st st' : SS} {a : Act} {w : World} {ks fs : List Nat} (A : At C bs st a w) (T : Tell bs st ks fs st') (hp : (ks.take C.b0.length) = List.range C.b0.length) : At C (ks.map fun k => bkA bs k) st' a w := by
  have hl := T.b.len
  refine ⟨⟨fun i x hx => ?_, A.f.d, A.f.z⟩, T.b.bk A.b, fun m hm => ?_, A.t, fun k X hX => A.n _ X (T.b.live hX), A.y, ?_⟩
  · have hmem := lookup_mem hx
    obtain ⟨k, hk, he⟩ := List.mem_iff_getElem.1 hmem
    have h1 := congrArg (fun l => l[k]?) T.s
    simp only [List.getElem?_map, List.getElem?_eq_getElem hk, Option.map_some, he] at h1
    have hok := List.all_eq_true.1 T.k _ hmem
    obtain ⟨y, hy1, hy2⟩ := Option.map_eq_some_iff.1 (Option.some.inj h1)
    obtain ⟨g1, g2⟩ := A.f.g i _ hy1
    rw [List.length_map]
    refine ⟨?_, hok⟩
    rw [g1, ← norm_den, hy2, norm_den]
    exact ren_den (bs := ks.map fun k => bkA bs k) (fun j hj => (kA_bk (by simpa using hj)).symm) (by rw [List.length_map]; exact hok)
  · have h := A.m m (facts_at T.m m hm)
    exact ⟨h.l, fun k X hX => h.o _ X (T.b.live hX), h.z⟩
  · obtain ⟨nb, hnb⟩ := A.p
    refine ⟨(ks.drop C.b0.length).map fun k => bkA bs k, ?_⟩
    have h1 : ((List.range C.b0.length).map fun k => bkA bs k) = C.b0 := by
      apply List.ext_getElem?
      intro i
      rw [List.getElem?_map]
      rcases Nat.lt_or_ge i C.b0.length with hi | hi
      · rw [List.getElem?_range hi, Option.map_some]
        unfold bkA
        rw [hnb, List.getD_eq_getElem?_getD, List.getElem?_append_left hi, List.getElem?_eq_getElem hi, Option.getD_some]
      · rw [List.getElem?_eq_none (by simpa using hi), List.getElem?_eq_none hi]
        rfl
    conv => lhs; rw [← List.take_append_drop C.b0.length ks]
    rw [List.map_append, hp, h1]
theorem loop {α : Type} {c : Cfg} (Inv : α → Prop) (μ : α → Nat) (F : α → SS) (x0 : α) (hm : P.follows .mixedOrders = true) (hI : Inv x0) (h : (loopOf c).isSome = true)
    (ks fs : List Nat) (hT : ∀ bs, Tell bs c.st ks fs (F x0)) (hp : ∀ b : List Blk, b = C.b0 → ks.take b.length = List.range b.length)
    (round : ∀ x, Inv x → ∀ I : Act → World → Prop, (∀ y bs a w, Inv y → μ y < μ x → At C bs (F y) a w → I a w) → Runs P C Q (go P C.n 9999 ⟨h0, co (lpB c) :: lp I :: lpR c, F x⟩)) : Runs P C Q c := by
  refine ⟨?_⟩
  intro bs a w A
  have A0 := A.tell (hT bs) (hp _ rfl)
  unfold loopOf at h
  split at h
  next x r hk hr =>
    split at h
    next b hx hc =>
      rw [hk, hr]
      show ex P Q (x :: r) .normal a w
      unfold ex
      rw [hx]
      show x.c.wp P _ a w
      rw [hc]
      have hB : lpB c = b := by unfold lpB loopOf; rw [hk, hr]; simp only [hx, hc]
      have hR : lpR c = r := by unfold lpR loopOf; rw [hk, hr]; simp only [hx, hc]
      rw [hB, hR] at round
      have hmin : ∀ a w, (∃ y bs, Inv y ∧ At C bs (F y) a w) → ∃ y, (∃ bs, Inv y ∧ At C bs (F y) a w) ∧ ∀ z, (∃ bs, Inv z ∧ At C bs (F z) a w) → μ y ≤ μ z := by
        intro a w ⟨y, bs, h1, h2⟩
        have key : ∀ n y, μ y = n → (∃ bs, Inv y ∧ At C bs (F y) a w) → ∃ y, (∃ bs, Inv y ∧ At C bs (F y) a w) ∧ ∀ z, (∃ bs, Inv z ∧ At C bs (F z) a w) → μ y ≤ μ z := by
          intro n
          induction n using Nat.strongRecOn with
          | _ n ih =>
            intro y hy hA
            by_cases hlt : ∃ z, (∃ bs, Inv z ∧ At C bs (F z) a w) ∧ μ z < n
            · obtain ⟨z, hz, hzn⟩ := hlt
              exact ih (μ z) hzn z rfl hz
            · refine ⟨y, hA, fun z hz => ?_⟩
              rcases Nat.lt_or_ge (μ z) (μ y) with hl | hl
              · exact absurd ⟨z, hz, by omega⟩ hlt
              · exact hl
        exact key _ y rfl ⟨bs, h1, h2⟩
      refine wp_loop (fun a w => ∃ y bs, Inv y ∧ At C bs (F y) a w) (fun a w => @dite _ (∃ y bs, Inv y ∧ At C bs (F y) a w) (Classical.propDecidable _) (fun h => μ (Classical.choose (hmin a w h))) fun _ => 0) ⟨x0, _, hI, A0⟩ ?_
      intro a w hIw
      obtain ⟨⟨bs1, q1, q2⟩, q3⟩ := Classical.choose_spec (hmin a w hIw)
      have hr1 := (go_ok hm _ (round (Classical.choose (hmin a w hIw)) q1 (fun a' w' => (∃ y bs, Inv y ∧ At C bs (F y) a' w') ∧ @dite _ (∃ y bs, Inv y ∧ At C bs (F y) a' w') (Classical.propDecidable _) (fun h => μ (Classical.choose (hmin a' w' h))) (fun _ => 0) < μ (Classical.choose (hmin a w hIw))) (fun y bs' a' w' hy hlt hA => by
        refine ⟨⟨y, bs', hy, hA⟩, ?_⟩
        rw [dif_pos ⟨y, bs', hy, hA⟩]
        exact Nat.lt_of_le_of_lt ((Classical.choose_spec (hmin a' w' ⟨y, bs', hy, hA⟩)).2 y ⟨bs', hy, hA⟩) hlt))).o bs1 a w q2
      rw [dif_pos hIw]
      refine Code.wp_mono ?_ hr1
      intro e a' w' q
      cases e <;> exact q
    · cases h
  · cases h
theorem again {c : Cfg} (I : Act → World → Prop) (h : headI c = some I) (H : ∀ bs a w, At C bs c.st a w → I a w) : Runs P C Q c := by
  refine ⟨?_⟩
  intro bs a w A
  unfold headI at h
  split at h
  next x r hk hr =>
    split at h
    next hx =>
      cases h
      rw [hk, hr]
      show ex P Q (x :: r) .normal a w
      unfold ex
      rw [hx]
      exact H bs a w A
    · cases h
  · cases h
theorem wrapI {x : Int} (h1 : -9223372036854775808 ≤ x) (h2 : x < 9223372036854775808) : IntKind.i64.wrap x = x := by
  rw [IntKind.wrap_i64]
  omega
/-- A slot told anew. -/
theorem reS {c : Cfg} (i : Nat) (x : SV) {y : SV} (hm : P.follows .mixedOrders = true) (h : c.st.s.lookup i = some y) (e : ∀ bs, x.den bs = y.den bs) (hx : okB 0 x = true) (H : Runs P C Q (go P C.n 9999 ⟨c.hd, c.r, ⟨(i, x) :: c.st.s, c.st.b, c.st.m⟩⟩)) : Runs P C Q c := by
  have H := go_ok hm _ H
  refine ⟨?_⟩
  intro bs a w A
  exact H.o bs a w (A.same h (e bs) (okB_mono (Nat.zero_le _) hx))
/-- A number that does not wrap. -/
theorem reW {c : Cfg} (i : Nat) (x : Int) (hm : P.follows .mixedOrders = true) (h : c.st.s.lookup i = some (.val (.int .i64 (IntKind.i64.wrap x)))) (h1 : -9223372036854775808 ≤ x) (h2 : x < 9223372036854775808) (H : Runs P C Q (go P C.n 9999 ⟨c.hd, c.r, ⟨(i, vi x) :: c.st.s, c.st.b, c.st.m⟩⟩)) : Runs P C Q c := reS i (vi x) hm h (fun bs => by simp only [vi, SV.den]; rw [wrapI h1 h2]) (by simp only [vi, okB]) H
/-- A cell told anew. -/
theorem reB0 {c : Cfg} (k o : Nat) (x : SV) {us : List SV} {y : SV} (hm : P.follows .mixedOrders = true) (h1 : c.st.b[k]? = some (.cells us)) (h2 : us[o]? = some y) (e : ∀ bs, x.den bs = y.den bs) (hx : okB 0 x = true) (H : Runs P C Q (go P C.n 9999 ⟨c.hd, c.r, ⟨c.st.s, c.st.b.set k (.cells (us.set o x)), c.st.m⟩⟩)) : Runs P C Q c := by
  have H := go_ok hm _ H
  have hde : ∀ bs, denL bs (us.set o x) = denL bs us := fun bs => by
    rw [denL_set, e]
    apply List.ext_getElem?
    intro i
    rw [List.getElem?_set]
    split
    next hi =>
      subst hi
      have := denL_at bs us o
      rw [h2] at this
      rw [this, if_pos (by rw [denL_len]; exact (List.getElem?_eq_some_iff.1 h2).1)]
      rfl
    next hi => rfl
  have hlv : ∀ bs j, live bs (c.st.b.set k (.cells (us.set o x))) j = live bs c.st.b j := fun bs j => live_set (y := .cells (us.set o x)) h1 rfl j
  have hA : ∀ bs a w, At C bs c.st a w → At C bs ⟨c.st.s, c.st.b.set k (.cells (us.set o x)), c.st.m⟩ a w := fun bs a w A => by
    refine ⟨A.f, ⟨by rw [List.length_set]; exact A.b.l, fun j z hj => ?_, fun z hz => ?_, fun i j X hij hi hj => ?_⟩, fun m hm => ?_, A.t, fun j X hX => A.n j X (by rw [← hlv]; exact hX), A.y, A.p⟩
    · rw [List.getElem?_set] at hj
      split at hj
      next hjk =>
        subst hjk
        split at hj
        · cases hj
          obtain ⟨X, x1, x2⟩ := (A.b.b k _ h1).o
          exact ⟨⟨X, x1, by rw [hde]; exact x2⟩⟩
        · cases hj
      next hjk => exact A.b.b j z hj
    · rcases List.mem_or_eq_of_mem_set hz with hz | rfl
      · exact A.b.ok z hz
      · exact okL_set (A.b.ok _ (List.mem_of_getElem? h1)) (okB_mono (Nat.zero_le _) hx)
    · rw [hlv] at hi hj
      exact A.b.nd i j X hij hi hj
    · have := A.m m hm
      exact ⟨this.l, fun j X hX => this.o j X (by rw [← hlv]; exact hX), this.z⟩
  refine ⟨?_⟩
  intro bs a w A
  have h := H.o bs a w (hA bs a w A)
  split
  next hk => simp only [hk] at h; exact h
  next hk => simp only [hk] at h; exact h
  next hk =>
    simp only [hk] at h
    intro bs0 hp hl hlF hMF hB hF hcF hcM
    exact h bs0 hp hl hlF hMF hB (fun m hm => by
      have := hF m hm
      exact ⟨this.l, fun j X hX => this.o j X (by rw [← hlv]; exact hX), this.z⟩) (hcF.trans (Ce.set h1)) hcM
  next i hk =>
    simp only [hk] at h
    intro bs0 hp hl hlF hMF hB hF hcF hcM
    exact h bs0 hp hl hlF hMF hB (fun m hm => by
      have := hF m hm
      exact ⟨this.l, fun j X hX => this.o j X (by rw [← hlv]; exact hX), this.z⟩) (hcF.trans (Ce.set h1)) hcM
def getC (B : List Bx) (k o : Nat) : Option SV := match B[k]? with | some (.cells us) => us[o]? | _ => none
def setC (B : List Bx) (k o : Nat) (x : SV) : List Bx := match B[k]? with | some (.cells us) => B.set k (.cells (us.set o x)) | _ => B
theorem reB {c : Cfg} (k o : Nat) (x : SV) (y : SV) (hm : P.follows .mixedOrders = true) (h : getC c.st.b k o = some y) (e : ∀ bs, x.den bs = y.den bs) (hx : okB 0 x = true) (H : Runs P C Q (go P C.n 9999 ⟨c.hd, c.r, ⟨c.st.s, setC c.st.b k o x, c.st.m⟩⟩)) : Runs P C Q c := by
  unfold getC at h
  split at h
  next us hk =>
    unfold setC at H
    rw [hk] at H
    exact reB0 k o x hm hk h e hx H
  · cases h
/-- A number in a box that does not wrap. -/
theorem reBW {c : Cfg} (k o : Nat) (x : Int) (hm : P.follows .mixedOrders = true) (h : getC c.st.b k o = some (.val (.int .i64 (IntKind.i64.wrap x)))) (h1 : -9223372036854775808 ≤ x) (h2 : x < 9223372036854775808) (H : Runs P C Q (go P C.n 9999 ⟨c.hd, c.r, ⟨c.st.s, setC c.st.b k o (vi x), c.st.m⟩⟩)) : Runs P C Q c := reB k o (vi x) _ hm h (fun bs => by simp only [vi, SV.den]; rw [wrapI h1 h2]) (by simp only [vi, okB]) H
theorem goB_ok (hm : P.follows .mixedOrders = true) : ∀ (k : Nat) {c : Cfg}, Runs P C Q (goB P C.n k c) → Runs P C Q c
  | 0, _, H => H
  | k + 1, c, H => by
    unfold goB at H
    cases hb : isBlk c with
    | true => rw [hb] at H; exact H
    | false =>
      rw [hb] at H
      simp only [cond_false] at H
      split at H
      next c' e => exact step_ok hm e (goB_ok hm k H)
      · exact H
theorem goN {c : Cfg} (k : Nat) (hm : P.follows .mixedOrders = true) (H : Runs P C Q (go P C.n k c)) : Runs P C Q c := go_ok hm k H
theorem ex_mono {I : Act → World → Prop} {l2 : List It} (hI : ∀ a w, I a w → ex P Q l2 .normal a w) : ∀ (l1 : List It) (e : Exit) (a : Act) (w : World), ex P Q (l1 ++ lp I :: l2) e a w → ex P Q (l1 ++ l2) e a w
  | [], e, a, w, h => by
    rw [List.nil_append] at h ⊢
    unfold ex at h
    cases e with
    | normal => exact hI a w h
    | _ => exact h
  | ⟨k, i, c, J⟩ :: r, e, a, w, h => by
    rw [List.cons_append] at h ⊢
    have hb : ∀ i' : Nat, (bif Nat.beq i' i then ex P Q (r ++ lp I :: l2) .normal else ex P Q (r ++ lp I :: l2) (.exit i')) a w → (bif Nat.beq i' i then ex P Q (r ++ l2) .normal else ex P Q (r ++ l2) (.exit i')) a w := fun i' q => by
      cases hb : Nat.beq i' i with
      | true => rw [hb] at q; exact ex_mono hI r _ a w q
      | false => rw [hb] at q; exact ex_mono hI r _ a w q
    rcases k with _ | _ | _ | k <;> cases e
    case zero.normal => exact Code.wp_mono (fun e a w q => ex_mono hI r e a w q) h
    case succ.zero.exit => exact hb _ h
    case succ.succ.zero.normal => exact h
    all_goals exact ex_mono hI r _ a w h
/-- Where ways meet: behind so many items the state is told anew. -/
theorem cut {α : Type} {c : Cfg} (j : Nat) (Inv : α → Prop) (F : α → SS) (hm : P.follows .mixedOrders = true) (hk : c.hd.k = 0)
    (h1 : ∀ I : Act → World → Prop, (∀ y bs a w, Inv y → At C bs (F y) a w → I a w) → Runs P C Q (go P C.n 9999 ⟨h0, c.r.take j ++ lp I :: c.r.drop j, c.st⟩))
    (h2 : ∀ y, Inv y → Runs P C Q (go P C.n 9999 ⟨h0, c.r.drop j, F y⟩)) : Runs P C Q c := by
  refine ⟨?_⟩
  intro bs a w A
  rw [hk]
  have H1 := (go_ok hm _ (h1 (fun a w => ∃ y bs, Inv y ∧ At C bs (F y) a w) fun y bs a w hy hA => ⟨y, bs, hy, hA⟩)).o bs a w A
  have := ex_mono (l2 := c.r.drop j) (fun a w ⟨y, bs, hy, hA⟩ => (go_ok hm _ (h2 y hy)).o bs a w hA) _ _ a w H1
  rwa [List.take_append_drop] at this
theorem goD_ok (hm : P.follows .mixedOrders = true) : ∀ (k : Nat) {c : Cfg}, Runs P C Q (goD P C.n k c) → Runs P C Q c
  | 0, _, H => H
  | k + 1, c, H => by
    unfold goD at H
    cases hb : isDrw c with
    | true => rw [hb] at H; exact H
    | false =>
      rw [hb] at H
      simp only [cond_false] at H
      split at H
      next c' e => exact step_ok hm e (goD_ok hm k H)
      · exact H
end
end Ev
end Go.Proofs.Ytkjpbjgepnbibaa
