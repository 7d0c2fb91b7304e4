/- Walks of Own and Set: what they make in memory of their own. -/
import Derived.Test.YtmndhecbjpjamaaMsgC
import Derived.Laws.AppendOwnNone
import Derived.Deep.AppendLies
namespace Go.Proofs.Ytmndhecbjpjamaa
open Go.RowKit

theorem Try.info45 : (Try.prog.info? 53).map (fun i => (i.zero, i.size, i.bytes)) = some (some (.agg #[.string ByteArray.empty, .string ByteArray.empty]), 2, 32) := by kernel_rfl
theorem Try.info5 : (Try.prog.info? 5).map (fun i => (i.zero, i.size, i.bytes)) = some (some (.int .u8 0), 1, 1) := by kernel_rfl

/-- 'append([]T(nil), xs...)', whatever xs: a row of the call's own, or nil. -/
theorem wpList_copy {P : Program} {w : World} {ops : Array Oper} {rest : List Oper} {o : Oper} {a : Act} {Q : Exit → Act → World → Prop} (hgd : o.guard = none) (x : Operand) (t : TypeId)
    (ho : o.op = .call { callee := .builtin .append, args := #[.const (.slice none 0 0), x], argTypes := #[t, t] })
    (base : Nat) (e : TypeId) (i : TypeInfo) (z : Value) (size bytes : Nat) (ht : P.underlying t = some (.slice e)) (hi : P.info? e = some i) (hz : i.zero = some z)
    (hsize : i.size = size) (hby : i.bytes = bytes) (hzs : z.cells.size = size) (hsz : 0 < size)
    (ao : Option Addr) (m c : Nat) (news : List Value) (hx : a.eval x = .slice ao m c) (hno : ao = none → m = 0 ∧ c = 0) (hl : news.length = m * size) (hnews : ∀ ad, ao = some ad → ∀ j u, news[j]? = some u → w.cell? (ad.add j) = some u) (h1 : ∀ u ∈ news, u.oneCell' = true)
    (h63 : m ≤ maxLen) (hbytes : m * bytes ≤ 140737488355328) (hbase : base ≤ w.heap.size)
    (h : ∀ ao' c' w', w'.ownsRow base e size (.slice ao' m c') m news → w.grownBy w' none → wpList P ops Q rest (a.put o.dst (.slice ao' m c')) w') : wpList P ops Q (o :: rest) a w := by
  cases ao with
  | none =>
    obtain ⟨rfl, rfl⟩ := hno rfl
    obtain rfl : news = [] := List.eq_nil_of_length_eq_zero (by simpa using hl)
    exact wpList_append_own_none hgd _ x t ho base e i size ht hi (.slice none 0 0) 0 [] rfl (World.ownsRow_nil _ _ _ _) hx (h none 0 w (World.ownsRow_nil _ _ _ _) ⟨rfl, rfl, rfl, Nat.le_refl _, fun _ _ _ => rfl⟩)
  | some ad =>
    refine wpList_append_own w hgd _ x t ho base e i z size bytes ht hi hz hsize hby hzs hsz (.slice none 0 0) 0 [] rfl (World.ownsRow_nil _ _ _ _) ad m c news hx hl (hnews ad rfl) h1 (by simpa using h63) (by simpa using hbytes) hbase ?_
    intro v' w' ho' hg _
    have ho2 : w'.ownsRow base e size v' m news := by simpa using ho'
    rcases ho2.2 with ⟨rfl, h0⟩ | ⟨g, cap, cur, hv, _⟩
    · subst h0; exact h none 0 w' ho2 hg
    · subst hv; exact h _ _ w' ho2 hg

/-- The cells of heads. -/
def hcells : List Hd → List Value
  | [] => []
  | h :: t => .string h.1 :: .string h.2 :: hcells t
theorem hcells_length : ∀ hs : List Hd, (hcells hs).length = hs.length * 2
  | [] => rfl
  | h :: t => by simp [hcells, hcells_length t]; omega
theorem hcells_at : ∀ (hs : List Hd) (i : Nat) (h : i < hs.length), (hcells hs)[i * 2]? = some (.string hs[i].1) ∧ (hcells hs)[i * 2 + 1]? = some (.string hs[i].2)
  | [], _, h => absurd h (by simp)
  | x :: t, 0, _ => by simp [hcells]
  | x :: t, i + 1, h => by
    have := hcells_at t i (by simpa using h)
    rw [show (i + 1) * 2 = i * 2 + 1 + 1 by omega]
    simpa [hcells] using this
theorem hcells_one : ∀ (hs : List Hd), ∀ u ∈ hcells hs, u.oneCell' = true
  | [], _, h => absurd h (by simp [hcells])
  | x :: t, u, h => by
    simp [hcells] at h
    rcases h with rfl | rfl | h
    · rfl
    · rfl
    · exact hcells_one t u h
theorem add_none (b off j : Nat) : (⟨b, off, none⟩ : Addr).add j = ⟨b, off + j, none⟩ := by unfold Addr.add; split <;> simp_all

theorem HeadsAt.news {w : World} {ao : Option Addr} {hs : List Hd} (h : HeadsAt w ao hs) : ∀ ad, ao = some ad → ∀ j u, (hcells hs)[j]? = some u → w.cell? (ad.add j) = some u := by
  intro ad e j u hu
  have hj : j < (hcells hs).length := by
    rcases Nat.lt_or_ge j (hcells hs).length with hl | hl
    · exact hl
    · rw [List.getElem?_eq_none hl] at hu; cases hu
  rw [hcells_length] at hj
  obtain ⟨b, off, e', _, c0, c1⟩ := h.lies (j / 2) (by omega)
  rw [e] at e'
  obtain rfl : ad = ⟨b, off, none⟩ := Option.some.inj e'
  have hh := hcells_at hs (j / 2) (by omega)
  rw [add_none]
  rcases Nat.mod_two_eq_zero_or_one j with hm | hm
  · have hj2 : j / 2 * 2 = j := by omega
    rw [hj2] at hh c0
    rw [hu] at hh; rw [c0]; exact hh.1.symm
  · have hj2 : j / 2 * 2 + 1 = j := by omega
    have ho2 : off + j / 2 * 2 + 1 = off + j := by omega
    rw [hj2] at hh; rw [ho2] at c1
    rw [hu] at hh; rw [c1]; exact hh.2.symm

/-- Out of an owned row of heads. -/
theorem headsAt_of_owns {w : World} {base c : Nat} {ao : Option Addr} {hs : List Hd} (h : w.ownsRow base 53 2 (.slice ao hs.length c) hs.length (hcells hs)) (hsm : hs.length ≤ maxLen) (hsz : ∀ h ∈ hs, h.1.size ≤ maxLen ∧ h.2.size ≤ maxLen) : HeadsAt w ao hs where
  lies i hi := by
    rcases h.2 with ⟨_, h0⟩ | ⟨g, cap, cur, hv, hb, hg, hrest⟩
    · omega
    · have hv' : ao = some ⟨g, 0, none⟩ := by simp at hv; exact hv.1
      subst hv'
      have hlt : g < w.heap.size := by
        rcases Nat.lt_or_ge g w.heap.size with hl | hl
        · exact hl
        · rw [Array.getElem?_eq_none hl] at hg; cases hg
      have hc := h.cells (g := g) rfl
      have hh := hcells_at hs i hi
      refine ⟨g, 0, rfl, hlt, ?_, ?_⟩
      · rw [← add_none]; exact hc _ _ hh.1
      · rw [Nat.add_assoc, ← add_none]; exact hc _ _ hh.2
  small := hsm
  size := hsz

def bcells (bs : ByteArray) : List Value := (numsOf bs).map (Value.int .u8)
theorem bcells_length (bs : ByteArray) : (bcells bs).length = bs.size := by simp [bcells, numsOf_length]
theorem bcells_at (bs : ByteArray) (i : Nat) (h : i < bs.size) : (bcells bs)[i]? = some (.int .u8 bs[i].toNat) := by
  have h' : i < bs.data.toList.length := by simpa using h
  simp [bcells, numsOf, h]
  rfl
theorem bcells_one (bs : ByteArray) : ∀ u ∈ bcells bs, u.oneCell' = true := by
  intro u hu
  simp only [bcells, List.mem_map] at hu
  obtain ⟨n, _, rfl⟩ := hu
  rfl
theorem BytesAt.news {w : World} {ao : Option Addr} {bs : ByteArray} (h : BytesAt w ao bs) : ∀ ad, ao = some ad → ∀ j u, (bcells bs)[j]? = some u → w.cell? (ad.add j) = some u := by
  intro ad e j u hu
  have hj : j < (bcells bs).length := by
    rcases Nat.lt_or_ge j (bcells bs).length with hl | hl
    · exact hl
    · rw [List.getElem?_eq_none hl] at hu; cases hu
  rw [bcells_length] at hj
  obtain ⟨b, off, e', _, c0⟩ := h.lies j hj
  rw [e] at e'
  obtain rfl : ad = ⟨b, off, none⟩ := Option.some.inj e'
  rw [add_none, c0, ← hu, bcells_at bs j hj]
theorem bytesAt_of_owns {w : World} {base c : Nat} {ao : Option Addr} {bs : ByteArray} (h : w.ownsRow base 5 1 (.slice ao bs.size c) bs.size (bcells bs)) (hsm : bs.size ≤ maxLen) : BytesAt w ao bs where
  lies i hi := by
    rcases h.2 with ⟨_, h0⟩ | ⟨g, cap, cur, hv, hb, hg, hrest⟩
    · omega
    · have hv' : ao = some ⟨g, 0, none⟩ := by simp at hv; exact hv.1
      subst hv'
      have hlt : g < w.heap.size := by
        rcases Nat.lt_or_ge g w.heap.size with hl | hl
        · exact hl
        · rw [Array.getElem?_eq_none hl] at hg; cases hg
      have hc := h.cells (g := g) rfl
      refine ⟨g, 0, rfl, hlt, ?_⟩
      rw [← add_none]; exact hc _ _ (bcells_at bs i hi)
  plain := by
    rcases h.2 with ⟨hv, _⟩ | ⟨g, cap, cur, hv, _⟩
    · left; simp at hv; exact hv.1
    · right; left; simp at hv; exact ⟨g, 0, hv.1⟩
  small := hsm

/-- A message whose lists are the call's own. -/
structure OwnsMs (base : Nat) (w : World) (ao : Option Addr) (c : Nat) (bo : Option Addr) (d : Nat) (m : Ms) : Prop where
  heads : w.ownsRow base 53 2 (.slice ao m.heads.length c) m.heads.length (hcells m.heads)
  body : w.ownsRow base 5 1 (.slice bo m.body.size d) m.body.size (bcells m.body)
  apart : ∀ g : Nat, (Value.slice bo m.body.size d).ownBlock = some g → (Value.slice ao m.heads.length c).ownBlock ≠ some g

theorem headsAt_zero {w : World} {ao : Option Addr} {hs : List Hd} (h : HeadsAt w ao hs) (he : ao = none) : hs.length = 0 := by
  rcases Nat.eq_zero_or_pos hs.length with h0 | h0
  · exact h0
  · obtain ⟨_, _, e, _⟩ := h.lies 0 h0; rw [he] at e; cases e
theorem bytesAt_zero {w : World} {ao : Option Addr} {bs : ByteArray} (h : BytesAt w ao bs) (he : ao = none) : bs.size = 0 := by
  rcases Nat.eq_zero_or_pos bs.size with h0 | h0
  · exact h0
  · obtain ⟨_, _, e, _⟩ := h.lies 0 h0; rw [he] at e; cases e

theorem owns_mono {w : World} {base base' : Nat} {e : TypeId} {size : Nat} {v : Value} {n : Nat} {xs : List Value} (h : w.ownsRow base e size v n xs) (hb : base' ≤ base) : w.ownsRow base' e size v n xs := by
  refine ⟨h.1, ?_⟩
  rcases h.2 with h2 | ⟨g, cap, cur, hv, hg, r⟩
  · exact .inl h2
  · exact .inr ⟨g, cap, cur, hv, by omega, r⟩
theorem grown2 {w w1 : World} {o o' : Obj} (h : ((w.alloc o).alloc o').grownBy w1 none) : Below (w.heap.size + 2) ((w.alloc o).alloc o') w1 :=
  ((Below.refl _ _).grown h (Nat.le_refl _) (fun k h => by cases h)).mono (by simp)
/-- Two blocks of the call's own, seen behind what keeps them. -/
theorem box2 {H : Nat} {W w1 : World} (b : Below (H + 2) W w1) : (∀ j, w1.cell? ⟨H, j, none⟩ = W.cell? ⟨H, j, none⟩) ∧ (∀ j, w1.frozen? ⟨H, j, none⟩ = W.frozen? ⟨H, j, none⟩) ∧
    (∀ j, w1.cell? ⟨H + 1, j, none⟩ = W.cell? ⟨H + 1, j, none⟩) ∧ (∀ j, w1.frozen? ⟨H + 1, j, none⟩ = W.frozen? ⟨H + 1, j, none⟩) :=
  ⟨fun j => b.cell (p := ⟨H, j, none⟩) (by show H < H + 2; omega), fun j => b.frozen (p := ⟨H, j, none⟩) (by show H < H + 2; omega),
   fun j => b.cell (p := ⟨H + 1, j, none⟩) (by show H + 1 < H + 2; omega), fun j => b.frozen (p := ⟨H + 1, j, none⟩) (by show H + 1 < H + 2; omega)⟩

set_option maxRecDepth 100000 in
set_option maxHeartbeats 1000000 in
theorem own_any (m : Ms) (v : Value) (w : World) (hm : MsAt w v m) :
    Calls Try.prog 27 #[v] w fun e w' => ∃ ao c bo d, e = .returned (.agg #[.int .i64 m.st, .string m.path, .slice ao m.heads.length c, .slice bo m.body.size d]) ∧ OwnsMs w.heap.size w' ao c bo d m ∧ Below w.heap.size w w' := by
  obtain ⟨⟨ao, c, bo, d, rfl, a1, a2, n1, n2, _⟩, hp, r1, r2⟩ := hm
  obtain ⟨i5, hi5, hz5, hs5, hb5⟩ := info_parts Try.info5
  obtain ⟨i45, hi45, hz45, hs45, hb45⟩ := info_parts Try.info45
  have hbw : ∀ o o' : Obj, Below w.heap.size w ((w.alloc o).alloc o') := fun o o' => ((Below.refl _ _).alloc (Nat.le_refl _) _).alloc (by simp) _
  have a1' := fun o o' => a1.below (Nat.le_refl _) (hbw o o')
  have Z1 : Hid (ao = none → m.heads.length = 0 ∧ c = 0) := fun h => ⟨headsAt_zero a1 h, n1 h⟩
  have Z2 : Hid (bo = none → m.body.size = 0 ∧ d = 0) := fun h => ⟨bytesAt_zero a2 h, n2 h⟩
  clear n1 n2
  have K1 : Hid (m.heads.length ≤ maxLen) := a1.small
  have K2 : Hid (m.body.size ≤ maxLen) := a2.small
  have R1 : Hid (m.heads.length * 32 ≤ 140737488355328) := by show m.heads.length * 32 ≤ 140737488355328; omega
  have R2 : Hid (m.body.size * 1 ≤ 140737488355328) := by show m.body.size * 1 ≤ 140737488355328; omega
  clear r1 r2
  go_enter Try.func27, Try.ntmps27
  go_wp2_with (first
    | (at_builtin; refine wpList_copy rfl (.tmp 4) 24 rfl (w.heap.size + 2) 53 i45 _ 2 32 Try.underlying24 hi45 hz45 hs45 hb45 rfl (by decide) ao m.heads.length c (hcells m.heads) rfl Z1.out (hcells_length _) (a1' _ _).news (hcells_one _) K1.out R1.out (by simp) ?_; intro ao1 c1 w1 own1 gr1; have bl1 := grown2 gr1; obtain ⟨hc1, hf1, hd1, he1⟩ := box2 bl1; have hs1 := bl1.size; simp at hs1; have bw1 := fun u => ((hbw _ _).trans (bl1.mono (Nat.le_add_right _ _))).setCell (p := ⟨w.heap.size, 2, none⟩) (Nat.le_refl _) u; have a2' := fun u => a2.below (Nat.le_refl _) (bw1 u); have own1' := fun u => ownsRow_setCell_below own1 (a := ⟨w.heap.size, 2, none⟩) (Nat.lt_add_of_pos_right (by decide)) u; clear gr1)
    | (at_builtin; refine wpList_copy rfl (.tmp 8) 25 rfl w1.heap.size 5 i5 _ 1 1 Try.underlying25 hi5 hz5 hs5 hb5 rfl (by decide) bo m.body.size d (bcells m.body) rfl Z2.out (by rw [Nat.mul_one]; exact bcells_length _) (a2' _).news (bcells_one _) K2.out R2.out (by simp) ?_; intro ao2 c2 w2 own2 gr2; have bl2 := ((Below.refl _ _).grown gr2 (Nat.le_refl _) (fun k h => by cases h)).mono (B' := w.heap.size + 2) (by simpa using hs1); obtain ⟨hc2, hf2, hd2, he2⟩ := box2 bl2; have own3 := (own1' _).kept gr2 (by cases h : (Value.slice ao1 m.heads.length c1).ownBlock <;> simp); have hs2 := bl2.size; simp at hs2; have bw2 := (bw1 _).trans (bl2.mono (Nat.le_add_right _ _)); clear gr2))
  refine bodyPost_ret (v := .agg #[.int .i64 m.st, .string m.path, .slice ao1 m.heads.length c1, .slice ao2 m.body.size c2]) ?_ rfl ⟨ao1, c1, ao2, c2, rfl, ⟨?_, ?_, ?_⟩, ?_⟩
  · simp [results, Try.results27, go_sem, hd2, hd1]
  · refine owns_mono (base := w.heap.size + 2) ?_ (by omega)
    repeat (refine ownsRow_setCell_below ?_ (by simp) _)
    exact own3
  · refine owns_mono (base := w1.heap.size) ?_ (by omega)
    repeat (refine ownsRow_setCell_below ?_ (by simp; omega) _)
    exact own2
  · intro g hg hg'
    have h1 := (own2.lt g hg).1
    have h2 := (own1.lt g hg').2
    omega
  · repeat (refine Below.setCell ?_ (by simp) _)
    exact bw2
end Go.Proofs.Ytmndhecbjpjamaa
