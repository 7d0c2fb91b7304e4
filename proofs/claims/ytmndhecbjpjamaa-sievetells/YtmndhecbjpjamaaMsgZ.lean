/- Walks of the document's own Set. -/
import Derived.Test.YtmndhecbjpjamaaMsgS
import Derived.Test.YtmndhecbjpjamaaSvA
namespace Go.Proofs.Ytmndhecbjpjamaa
open Go.RowKit

theorem setH_snoc (key text : ByteArray) (h : Hd) : ∀ hs : List Hd, setH key text (hs ++ [h]) = setH key text hs ++ [if h.1 = key ∧ getB key hs = false then (h.1, text) else h]
  | [] => by
    by_cases e : h.1 = key
    · simp [setH, getB, e]
    · simp [setH, e]
  | x :: t => by
    by_cases e : x.1 = key
    · simp [setH, getB, e]
    · simp [setH, getB, e, setH_snoc key text h t]
theorem setH_length (key text : ByteArray) : ∀ hs : List Hd, (setH key text hs).length = hs.length
  | [] => rfl
  | x :: t => by
    by_cases e : x.1 = key
    · simp [setH, e]
    · simp [setH, e, setH_length key text t]
theorem setH_not (key text : ByteArray) : ∀ hs : List Hd, getB key hs = false → setH key text hs = hs
  | [], _ => rfl
  | x :: t, h => by
    by_cases e : x.1 = key
    · simp [getB, e] at h
    · simp [getB, e] at h
      simp [setH, e, setH_not key text t h]
theorem setH_size {key text : ByteArray} {B : Nat} (ht : text.size ≤ B) : ∀ {hs : List Hd}, (∀ h ∈ hs, h.1.size ≤ B ∧ h.2.size ≤ B) → ∀ h ∈ setH key text hs, h.1.size ≤ B ∧ h.2.size ≤ B
  | [], _, _, hh => absurd hh (by simp [setH])
  | x :: t, H, h, hh => by
    by_cases e : x.1 = key
    · simp only [setH, e, if_true] at hh
      rcases List.mem_cons.1 hh with rfl | hh
      · exact ⟨by rw [← e]; exact (H x (by simp)).1, ht⟩
      · exact H h (by simp [hh])
    · simp only [setH, e, if_false] at hh
      rcases List.mem_cons.1 hh with rfl | hh
      · exact H _ (by simp)
      · exact setH_size ht (fun g hg => H g (by simp [hg])) h hh

/-- Where Set stands between two heads. -/
structure SMid (w wr : World) (O : Nat) (st : Int) (p : ByteArray) (hs : List Hd) (ao : Option Addr) (c : Nat) (bo : Option Addr) (n d : Nat) : Prop where
  o0 : wr.cell? ⟨O, 0, none⟩ = some (.int .i64 st)
  o1 : wr.cell? ⟨O, 1, none⟩ = some (.string p)
  o2 : wr.cell? ⟨O, 2, none⟩ = some (.slice ao hs.length c)
  o3 : wr.cell? ⟨O, 3, none⟩ = some (.slice bo n d)
  of : ∀ j, wr.frozen? ⟨O, j, none⟩ = false
  z0 : wr.cell? ⟨w.heap.size + 1, 0, none⟩ = some (.int .i64 0)
  z1 : wr.cell? ⟨w.heap.size + 1, 1, none⟩ = some (.string ⟨#[]⟩)
  z2 : wr.cell? ⟨w.heap.size + 1, 2, none⟩ = some (.slice none 0 0)
  z3 : wr.cell? ⟨w.heap.size + 1, 3, none⟩ = some (.slice none 0 0)
  zf : ∀ j, wr.frozen? ⟨w.heap.size + 1, j, none⟩ = false
  ow : wr.ownsRow (O + 1) 53 2 (.slice ao hs.length c) hs.length (hcells hs)
  bl : Below w.heap.size w wr
  lo : w.heap.size + 1 < O
  hi : O < wr.heap.size

theorem SMid.grow {w w5 w6 : World} {O : Nat} {st : Int} {p : ByteArray} {hs : List Hd} {ao bo : Option Addr} {c n d : Nat} {g cap : Nat} {x : Hd} (h : SMid w w5 O st p hs ao c bo n d)
    (b : Below (O + 1) w5 w6) (own : w6.ownsRow (O + 1) 53 2 (.slice (some ⟨g, 0, none⟩) (hs.length + 1) cap) (hs.length + 1) (hcells hs ++ [.string x.1, .string x.2])) :
    SMid w (w6.setCell ⟨O, 2, none⟩ (.slice (some ⟨g, 0, none⟩) (hs.length + 1) cap)) O st p (hs ++ [x]) (some ⟨g, 0, none⟩) cap bo n d := by
  have h2 := h.hi
  have h3 := h.lo
  have cc := fun k j (hk : k < O + 1) => b.cell (p := ⟨k, j, none⟩) hk
  have cf := fun k j (hk : k < O + 1) => b.frozen (p := ⟨k, j, none⟩) hk
  have hl : (hs ++ [x]).length = hs.length + 1 := by simp
  have bs := b.size
  have sc := fun k j (hk : k ≠ O) => World.cell?_of_block (w := w6) (w' := w6.setCell ⟨O, 2, none⟩ (.slice (some ⟨g, 0, none⟩) (hs.length + 1) cap)) (a := ⟨k, j, none⟩) (Below.heap_setCell _ _ _ _ hk)
  have sf := fun k j (hk : k ≠ O) => World.frozen?_of_block (w := w6) (w' := w6.setCell ⟨O, 2, none⟩ (.slice (some ⟨g, 0, none⟩) (hs.length + 1) cap)) (a := ⟨k, j, none⟩) (Below.heap_setCell _ _ _ _ hk)
  have so := fun j (hj : j ≠ 2) => World.cell?_setCell_other w6 ⟨O, 2, none⟩ ⟨O, j, none⟩ (.slice (some ⟨g, 0, none⟩) (hs.length + 1) cap) (fun e => hj (by injection e with _ e2; exact e2.symm))
  refine ⟨?_, ?_, ?_, ?_, ?_, ?_, ?_, ?_, ?_, ?_, ?_, ?_, h3, ?_⟩
  · rw [so 0 (by omega), cc _ _ (by omega)]; exact h.o0
  · rw [so 1 (by omega), cc _ _ (by omega)]; exact h.o1
  · rw [hl]; exact World.cell?_setCell_same w6 _ _ (u := .slice ao hs.length c) (by rw [cc _ _ (by omega)]; exact h.o2)
  · rw [so 3 (by omega), cc _ _ (by omega)]; exact h.o3
  · intro j; simp only [World.frozen?_setCell]; rw [cf _ _ (by omega)]; exact h.of j
  · rw [sc _ _ (by omega), cc _ _ (by omega)]; exact h.z0
  · rw [sc _ _ (by omega), cc _ _ (by omega)]; exact h.z1
  · rw [sc _ _ (by omega), cc _ _ (by omega)]; exact h.z2
  · rw [sc _ _ (by omega), cc _ _ (by omega)]; exact h.z3
  · intro j; rw [sf _ _ (by omega), cf _ _ (by omega)]; exact h.zf j
  · rw [hl, hcells_append]; exact ownsRow_setCell_below own (by show O < O + 1; omega) _
  · exact (h.bl.trans (b.mono (by omega))).setCell (by show w.heap.size ≤ O; omega) _
  · simp; omega

theorem sm_msAt {w W : World} {O : Nat} {st : Int} {p body : ByteArray} {hs : List Hd} {ao bo : Option Addr} {c d : Nat} (ow : W.ownsRow (O + 1) 53 2 (.slice ao hs.length c) hs.length (hcells hs)) (bl : Below w.heap.size w W) (a2 : BytesAt w bo body) (n2 : bo = none → d = 0) (hp : p.size ≤ maxLen) (hl : hs.length * 32 ≤ 140737488351232) (hh : ∀ h ∈ hs, h.1.size ≤ maxLen ∧ h.2.size ≤ maxLen) (hb : body.size ≤ 140737488351232) :
    MsAt W (.agg #[.int .i64 st, .string p, .slice ao hs.length c, .slice bo body.size d]) ⟨st, p, hs, body⟩ := by
  have hcap2 : hs.length ≤ c ∧ c ≤ maxLen := by
    rcases ow.2 with ⟨hv, h0⟩ | ⟨g, cap, cur, hv, _, _, h5, h6, _⟩
    · simp only [Value.slice.injEq] at hv; rw [h0, hv.2.2]; unfold maxLen; omega
    · simp only [Value.slice.injEq, true_and] at hv; rw [hv.2]; exact ⟨h5, h6⟩
  have hnil : ao = none → c = 0 := by
    intro e
    rcases ow.2 with ⟨hv, _⟩ | ⟨g, cap, cur, hv, _⟩
    · simp at hv; exact hv.2.2
    · simp [e] at hv
  refine ⟨⟨ao, c, bo, d, rfl, headsAt_of_owns (base := O + 1) (c := c) ow (by unfold maxLen; show hs.length ≤ _; omega) hh, a2.below (Nat.le_refl _) bl, hnil, n2, hcap2⟩, hp, ?_, hb⟩
  show hs.length * 32 ≤ _
  omega
/-- What lies there wherever m does, and new memory is as it was. -/
def Rides (base : Nat) (w : World) (v : Value) (m : Ms) (v' : Value) (m' : Ms) : Prop :=
  ∀ W : World, w.heap.size ≤ W.heap.size → (∀ k, base ≤ k → k < w.heap.size → W.heap[k]? = w.heap[k]?) → MsAt W v m → MsAt W v' m'
theorem Rides.refl (base : Nat) (w : World) (v : Value) (m : Ms) : Rides base w v m v m := fun _ _ _ h => h
theorem Rides.lies {base : Nat} {w : World} {v v' : Value} {m m' : Ms} (h : Rides base w v m v' m') (hm : MsAt w v m) : MsAt w v' m' := h w (Nat.le_refl _) (fun _ _ _ => rfl) hm
theorem Rides.mono {base b : Nat} {w : World} {v v' : Value} {m m' : Ms} (h : Rides base w v m v' m') (hb : b ≤ base) : Rides b w v m v' m' :=
  fun W hs hk hm => h W hs (fun k h1 h2 => hk k (Nat.le_trans hb h1) h2) hm
/-- Behind stores below, and new memory. -/
theorem Rides.keep {base : Nat} {w w' : World} {v v' : Value} {m m' : Ms} (h : Rides base w v m v' m') (hs : w.heap.size ≤ w'.heap.size) (hk : ∀ k, base ≤ k → k < w.heap.size → w'.heap[k]? = w.heap[k]?) : Rides base w' v m v' m' :=
  fun W hs' hk' hm => h W (Nat.le_trans hs hs') (fun k h1 h2 => (hk' k h1 (Nat.lt_of_lt_of_le h2 hs)).trans (hk k h1 h2)) hm
theorem Rides.set {base : Nat} {w : World} {v v' : Value} {m m' : Ms} (h : Rides base w v m v' m') {a : Addr} (ha : a.block < base) (u : Value) : Rides base (w.setCell a u) v m v' m' :=
  h.keep (by simp) (fun k h1 _ => Below.heap_setCell w a u k (by omega))
theorem rides_new {base : Nat} {w : World} {v v' : Value} {m m' : Ms} (h : New base w v' m') : Rides base w v m v' m' := by
  intro W hs hk _
  obtain ⟨⟨ao, c, bo, d, rfl, h1, h2, h3⟩, h4, h5⟩ := h.lies
  obtain ⟨x, y, ao', n, c', bo', k, d', e, f1, f2⟩ := h.low
  simp only [Value.agg.injEq, Array.mk.injEq, List.cons.injEq, Value.slice.injEq, and_true] at e
  obtain ⟨_, _, ⟨rfl, _, _⟩, ⟨rfl, _, _⟩⟩ := e
  refine ⟨⟨ao, c, bo, d, rfl, ⟨fun i hi => ?_, h1.small, h1.size⟩, ⟨fun i hi => ?_, h2.plain, h2.small⟩, h3⟩, h4, h5⟩
  · obtain ⟨b, off, e1, e2, e3, e4⟩ := h1.lies i hi
    have hb : base ≤ b := f1 _ e1
    exact ⟨b, off, e1, by omega, by rw [World.cell?_of_block (w := w) (a := ⟨b, off + i * 2, none⟩) (hk b hb e2)]; exact e3, by rw [World.cell?_of_block (w := w) (a := ⟨b, off + i * 2 + 1, none⟩) (hk b hb e2)]; exact e4⟩
  · obtain ⟨b, off, e1, e2, e3⟩ := h2.lies i hi
    have hb : base ≤ b := f2 _ e1
    exact ⟨b, off, e1, by omega, by rw [World.cell?_of_block (w := w) (a := ⟨b, off + i, none⟩) (hk b hb e2)]; exact e3⟩
theorem owns_same {w w' : World} {base : Nat} {e : TypeId} {size : Nat} {v : Value} {n : Nat} {xs : List Value} (h : w.ownsRow base e size v n xs) (hb : ∀ k, base ≤ k → k < w.heap.size → w'.heap[k]? = w.heap[k]?) : w'.ownsRow base e size v n xs := by
  refine ⟨h.1, ?_⟩
  rcases h.2 with h2 | ⟨g, cap, cur, hv, hg, hh, r⟩
  · exact .inl h2
  · have hlt := (h.lt g (by rw [hv]; rfl)).2
    exact .inr ⟨g, cap, cur, hv, hg, by rw [hb g hg hlt]; exact hh, r⟩
theorem sm_rides {W : World} {O base n : Nat} {v : Value} {m : Ms} {st st0 : Int} {p p0 : ByteArray} {hs : List Hd} {ao ao0 bo : Option Addr} {c c0 d n0 : Nat} (hv : v = .agg #[.int .i64 st0, .string p0, .slice ao0 n0 c0, .slice bo m.body.size d]) (hn : hs.length = n) (hO : base ≤ O + 1) (n2 : bo = none → d = 0) (hp : p.size ≤ maxLen) (hl : hs.length * 32 ≤ 140737488351232) (hh : ∀ h ∈ hs, h.1.size ≤ maxLen ∧ h.2.size ≤ maxLen) (hb : m.body.size ≤ 140737488351232)
    (ow : W.ownsRow (O + 1) 53 2 (.slice ao hs.length c) hs.length (hcells hs)) :
    Rides base W v m (.agg #[.int .i64 st, .string p, .slice ao n c, .slice bo m.body.size d]) ⟨st, p, hs, m.body⟩ := by
  subst hn hv
  intro W' _ hk hm
  exact sm_msAt (w := W') (W := W') (O := O) (owns_same ow fun k h1 h2 => hk k (by omega) h2) (Below.refl _ _) hm.parts.2 n2 hp hl hh hb

theorem sm_msAt_n {w W : World} {O n : Nat} {st : Int} {p body : ByteArray} {hs : List Hd} {ao bo : Option Addr} {c d : Nat} (hn : hs.length = n) (ow : W.ownsRow (O + 1) 53 2 (.slice ao hs.length c) hs.length (hcells hs)) (bl : Below w.heap.size w W) (a2 : BytesAt w bo body) (n2 : bo = none → d = 0) (hp : p.size ≤ maxLen) (hl : hs.length * 32 ≤ 140737488351232) (hh : ∀ h ∈ hs, h.1.size ≤ maxLen ∧ h.2.size ≤ maxLen) (hb : body.size ≤ 140737488351232) :
    MsAt W (.agg #[.int .i64 st, .string p, .slice ao n c, .slice bo body.size d]) ⟨st, p, hs, body⟩ := by
  subst hn; exact sm_msAt ow bl a2 n2 hp hl hh hb

theorem smid_start (w : World) (m : Ms) (bo : Option Addr) (d : Nat) (o : Obj) : SMid w (((w.alloc o).alloc (.cells #[.int .i64 0, .string ⟨#[]⟩, .slice none 0 0, .slice none 0 0] 27)).alloc (.cells #[.int .i64 m.st, .string m.path, .slice none 0 0, .slice bo m.body.size d] 27)) (w.heap.size + 1 + 1) m.st m.path [] none 0 bo m.body.size d where
  o0 := by simp [go_sem]
  o1 := by simp [go_sem]
  o2 := by simp [go_sem]
  o3 := by simp [go_sem]
  of j := by simp [go_sem]
  z0 := by simp [go_sem]
  z1 := by simp [go_sem]
  z2 := by simp [go_sem]
  z3 := by simp [go_sem]
  zf j := by simp [go_sem]
  ow := World.ownsRow_nil _ _ _ _
  bl := (((Below.refl _ _).alloc (Nat.le_refl _) _).alloc (by simp) _).alloc (by simp; omega) _
  lo := by omega
  hi := by simp

theorem pair_at (w : World) (o : Obj) (a b : Value) (t : TypeId) : ∀ j u, [a, b][j]? = some u → ((w.alloc o).alloc (.cells #[a, b] t)).cell? ((⟨w.heap.size + 1, 0, none⟩ : Addr).add j) = some u := by
  have h := pair_new (w.alloc o) a b t
  simpa using h

set_option maxRecDepth 100000 in
set_option maxHeartbeats 4000000 in
theorem rset_any (m : Ms) (key text : ByteArray) (v : Value) (w : World) (hm : MsAt w v m) (hkey : key.size ≤ maxLen) (ht : text.size ≤ maxLen) :
    Calls Try.prog 19 #[v, .string key, .string text] w fun e w' => ∃ v', e = .returned v' ∧ Rides w.heap.size w' v m v' (setM m key text) ∧ Below w.heap.size w w' := by
  obtain ⟨⟨ao0, c0, bo0, d0, rfl, a1, a2, n1, n2, n3, n4⟩, hp, R⟩ := hm
  have HR : Hid (m.body.size ≤ 140737488351232) := R.2
  have HL : Hid (m.heads.length * 32 ≤ 140737488351232) := R.1
  clear R n1 n3 n4
  have i6 : (m.heads.length : Int) ≤ 4398046510976 := by have := HL.out; omega
  go_enter Try.func19, Try.ntmps19
  go_wp2
  have mid := smid_start w m bo0 d0 (.cells #[.int .i64 m.st, .string m.path, .slice ao0 m.heads.length c0, .slice bo0 m.body.size d0] 27)
  obtain ⟨O, hO⟩ : ∃ O, w.heap.size + 1 + 1 = O := ⟨_, rfl⟩
  rw [hO] at mid ⊢
  clear hO
  go_loopw [8, 16] (fun dv i wr => ∃ (k : Nat) (out : List Hd) (ao : Option Addr) (c : Nat), k ≤ m.heads.length ∧ i = .int .i64 k ∧ dv = .bool (getB key (m.heads.take k)) ∧ SMid w wr O m.st m.path out ao c bo0 m.body.size d0 ∧ Hid (out = setH key text (m.heads.take k))) (fun _ i _ => m.heads.length - (intOf i).toNat)
  case atStart => exact ⟨0, [], none, 0, by omega, rfl, by simp [getB], mid, by show _ = _; simp [setH]⟩
  case round =>
    clear mid
    obtain ⟨k, out, ao, c, hk, rfl, rfl, mid, HO⟩ := hrel
    have HOL : Hid (out.length = k) := by show _ = _; rw [HO.out, setH_length]; simp; omega
    have hob : out.length ≤ 4398046510976 := by have h1 := HOL.out; have h2 := HL.out; omega
    have hoi : (out.length : Int) ≤ 4398046510976 := by omega
    have SM : Hid (SMid w wr O m.st m.path out ao c bo0 m.body.size d0) := mid
    obtain ⟨o0, o1, o2, o3, of, z0, z1, z2, z3, zf, ow, bl, lo, hi⟩ := mid
    have ne1 : ¬ O = w.heap.size + 1 := by omega
    have ne2 : ¬ w.heap.size + 1 = O := by omega
    have ne3 : ¬ wr.heap.size = O := by omega
    have ne4 : ¬ O = wr.heap.size := by omega
    obtain ⟨i45, hi45, hz45, hs45, hb45⟩ := info_parts Try.info45
    by_cases hlt : k < m.heads.length
    · obtain ⟨b, off, rfl, hb, c0', c1'⟩ := a1.lies k hlt
      have hlt' : (k : Int) < (m.heads.length : Int) := by omega
      rw [← bl.cell (p := ⟨b, off + k * 2, none⟩) (by simpa using hb)] at c0'
      rw [← bl.cell (p := ⟨b, off + k * 2 + 1, none⟩) (by simpa using hb)] at c1'
      have nb : ¬ b = wr.heap.size := by have := bl.size; have hb' : b < w.heap.size := hb; omega
      cases hgb : getB key (m.heads.take k) with
      | true =>
        by_cases hk' : m.heads[k].1 = key
        · have q1 : (m.heads[k].1.toList == key.toList) = true := by rw [hk']; simp
          have HD : Hid (getB key (m.heads.take k) = true) := hgb
          have HK : Hid (m.heads[k].1 = key) := hk'
          clear hgb hk'
          go_wp2_with (at_builtin; refine wpList_append_lies _ rfl (.tmp 31) (.tmp 33) 24 rfl (O + 1) 53 i45 _ 2 32 Try.underlying24 hi45 hz45 hs45 hb45 rfl (by decide) (.slice ao out.length c) out.length (hcells out) rfl ((SM.out.ow.alloc _).alloc _) ⟨wr.heap.size + 1, 0, none⟩ 1 1 [.string m.heads[k].1, .string m.heads[k].2] rfl rfl ?qnews ?qone (by decide) ?q63 ?qby ?qbase (wr.heap.size + 2) (by simp) ?_)
          case qnews => exact pair_at _ _ _ _ _
          case qone => intro u hu; simp at hu; rcases hu with rfl | rfl <;> rfl
          case q63 => unfold maxLen; omega
          case qby => omega
          case qbase => simp; omega
          intro g1 cap1 w6 own6 gr6 hor hlt6
          have b6 : Below (O + 1) wr w6 := ⟨gr6.os, gr6.tape, gr6.output, Nat.le_trans (by simp; omega) gr6.size, fun k hk => (gr6.block k (by simp; omega) (fun e => by have := (ow.lt k e.symm).1; omega)).trans ((Below.heap_alloc _ _ _ (by simp; omega)).trans (Below.heap_alloc _ _ _ (by omega)))⟩
          have s2 := (b6.cell (p := ⟨O, 2, none⟩) (by show O < _; omega)).trans o2
          have sf := fun j => (b6.frozen (p := ⟨O, j, none⟩) (by show O < _; omega)).trans (of j)
          have NEW : Hid (SMid _ _ _ _ _ _ _ _ _ _ _) := SM.out.grow (x := (m.heads[k].1, m.heads[k].2)) b6 own6
          clear own6 gr6 hor hlt6 b6
          go_wp2
          go_roundw
          case rel =>
            refine ⟨k + 1, _, _, _, by omega, by go_num, ?_, NEW.out, ?_⟩
            · rw [List.take_succ_eq_append_getElem hlt, getB_snoc]; simp [HD.out, HK.out]
            · show _ = _
              rw [List.take_succ_eq_append_getElem hlt, setH_snoc, ← HO.out]; simp [HD.out]
          case measure => simp [intOf]; omega

        · have q1 : (m.heads[k].1.toList == key.toList) = false := by rw [toList_eq, toList_eq, beq_eq_false_iff_ne]; exact fun e => hk' (WideShapes.bytes_inj e)
          have HD : Hid (getB key (m.heads.take k) = true) := hgb
          have HK : Hid (¬ m.heads[k].1 = key) := hk'
          clear hgb hk'
          go_wp2_with (at_builtin; refine wpList_append_lies _ rfl (.tmp 31) (.tmp 33) 24 rfl (O + 1) 53 i45 _ 2 32 Try.underlying24 hi45 hz45 hs45 hb45 rfl (by decide) (.slice ao out.length c) out.length (hcells out) rfl ((SM.out.ow.alloc _).alloc _) ⟨wr.heap.size + 1, 0, none⟩ 1 1 [.string m.heads[k].1, .string m.heads[k].2] rfl rfl ?qnews ?qone (by decide) ?q63 ?qby ?qbase (wr.heap.size + 2) (by simp) ?_)
          case qnews => exact pair_at _ _ _ _ _
          case qone => intro u hu; simp at hu; rcases hu with rfl | rfl <;> rfl
          case q63 => unfold maxLen; omega
          case qby => omega
          case qbase => simp; omega
          intro g1 cap1 w6 own6 gr6 hor hlt6
          have b6 : Below (O + 1) wr w6 := ⟨gr6.os, gr6.tape, gr6.output, Nat.le_trans (by simp; omega) gr6.size, fun k hk => (gr6.block k (by simp; omega) (fun e => by have := (ow.lt k e.symm).1; omega)).trans ((Below.heap_alloc _ _ _ (by simp; omega)).trans (Below.heap_alloc _ _ _ (by omega)))⟩
          have s2 := (b6.cell (p := ⟨O, 2, none⟩) (by show O < _; omega)).trans o2
          have sf := fun j => (b6.frozen (p := ⟨O, j, none⟩) (by show O < _; omega)).trans (of j)
          have NEW : Hid (SMid _ _ _ _ _ _ _ _ _ _ _) := SM.out.grow (x := (m.heads[k].1, m.heads[k].2)) b6 own6
          clear own6 gr6 hor hlt6 b6
          go_wp2
          go_roundw
          case rel =>
            refine ⟨k + 1, _, _, _, by omega, by go_num, ?_, NEW.out, ?_⟩
            · rw [List.take_succ_eq_append_getElem hlt, getB_snoc]; simp [HD.out]
            · show _ = _
              rw [List.take_succ_eq_append_getElem hlt, setH_snoc, ← HO.out]; simp [HD.out]
          case measure => simp [intOf]; omega

      | false =>
        by_cases hk' : m.heads[k].1 = key
        · have q1 : (m.heads[k].1.toList == key.toList) = true := by rw [hk']; simp
          have HD : Hid (getB key (m.heads.take k) = false) := hgb
          have HK : Hid (m.heads[k].1 = key) := hk'
          clear hgb hk'
          go_wp2_with (at_builtin; refine wpList_append_lies _ rfl (.tmp 31) (.tmp 33) 24 rfl (O + 1) 53 i45 _ 2 32 Try.underlying24 hi45 hz45 hs45 hb45 rfl (by decide) (.slice ao out.length c) out.length (hcells out) rfl ((SM.out.ow.alloc _).alloc _) ⟨wr.heap.size + 1, 0, none⟩ 1 1 [.string m.heads[k].1, .string text] rfl rfl ?qnews ?qone (by decide) ?q63 ?qby ?qbase (wr.heap.size + 2) (by simp) ?_)
          case qnews => exact pair_at _ _ _ _ _
          case qone => intro u hu; simp at hu; rcases hu with rfl | rfl <;> rfl
          case q63 => unfold maxLen; omega
          case qby => omega
          case qbase => simp; omega
          intro g1 cap1 w6 own6 gr6 hor hlt6
          have b6 : Below (O + 1) wr w6 := ⟨gr6.os, gr6.tape, gr6.output, Nat.le_trans (by simp; omega) gr6.size, fun k hk => (gr6.block k (by simp; omega) (fun e => by have := (ow.lt k e.symm).1; omega)).trans ((Below.heap_alloc _ _ _ (by simp; omega)).trans (Below.heap_alloc _ _ _ (by omega)))⟩
          have s2 := (b6.cell (p := ⟨O, 2, none⟩) (by show O < _; omega)).trans o2
          have sf := fun j => (b6.frozen (p := ⟨O, j, none⟩) (by show O < _; omega)).trans (of j)
          have NEW : Hid (SMid _ _ _ _ _ _ _ _ _ _ _) := SM.out.grow (x := (m.heads[k].1, text)) b6 own6
          clear own6 gr6 hor hlt6 b6
          go_wp2
          go_roundw
          case rel =>
            refine ⟨k + 1, _, _, _, by omega, by go_num, ?_, NEW.out, ?_⟩
            · rw [List.take_succ_eq_append_getElem hlt, getB_snoc]; simp [HD.out, HK.out]
            · show _ = _
              rw [List.take_succ_eq_append_getElem hlt, setH_snoc, ← HO.out]; simp [HD.out, HK.out]
          case measure => simp [intOf]; omega

        · have q1 : (m.heads[k].1.toList == key.toList) = false := by rw [toList_eq, toList_eq, beq_eq_false_iff_ne]; exact fun e => hk' (WideShapes.bytes_inj e)
          have HD : Hid (getB key (m.heads.take k) = false) := hgb
          have HK : Hid (¬ m.heads[k].1 = key) := hk'
          clear hgb hk'
          go_wp2_with (at_builtin; refine wpList_append_lies _ rfl (.tmp 31) (.tmp 33) 24 rfl (O + 1) 53 i45 _ 2 32 Try.underlying24 hi45 hz45 hs45 hb45 rfl (by decide) (.slice ao out.length c) out.length (hcells out) rfl ((SM.out.ow.alloc _).alloc _) ⟨wr.heap.size + 1, 0, none⟩ 1 1 [.string m.heads[k].1, .string m.heads[k].2] rfl rfl ?qnews ?qone (by decide) ?q63 ?qby ?qbase (wr.heap.size + 2) (by simp) ?_)
          case qnews => exact pair_at _ _ _ _ _
          case qone => intro u hu; simp at hu; rcases hu with rfl | rfl <;> rfl
          case q63 => unfold maxLen; omega
          case qby => omega
          case qbase => simp; omega
          intro g1 cap1 w6 own6 gr6 hor hlt6
          have b6 : Below (O + 1) wr w6 := ⟨gr6.os, gr6.tape, gr6.output, Nat.le_trans (by simp; omega) gr6.size, fun k hk => (gr6.block k (by simp; omega) (fun e => by have := (ow.lt k e.symm).1; omega)).trans ((Below.heap_alloc _ _ _ (by simp; omega)).trans (Below.heap_alloc _ _ _ (by omega)))⟩
          have s2 := (b6.cell (p := ⟨O, 2, none⟩) (by show O < _; omega)).trans o2
          have sf := fun j => (b6.frozen (p := ⟨O, j, none⟩) (by show O < _; omega)).trans (of j)
          have NEW : Hid (SMid _ _ _ _ _ _ _ _ _ _ _) := SM.out.grow (x := (m.heads[k].1, m.heads[k].2)) b6 own6
          clear own6 gr6 hor hlt6 b6
          go_wp2
          go_roundw
          case rel =>
            refine ⟨k + 1, _, _, _, by omega, by go_num, ?_, NEW.out, ?_⟩
            · rw [List.take_succ_eq_append_getElem hlt, getB_snoc]; simp [HD.out, HK.out]
            · show _ = _
              rw [List.take_succ_eq_append_getElem hlt, setH_snoc, ← HO.out]; simp [HD.out, HK.out]
          case measure => simp [intOf]; omega

    · have hke : k = m.heads.length := by omega
      have HO2 : Hid (out = setH key text m.heads) := by show out = _; rw [HO.out, hke, List.take_length]
      have HSZ : Hid (∀ h ∈ out, h.1.size ≤ maxLen ∧ h.2.size ≤ maxLen) := by
        show ∀ h ∈ out, _
        rw [HO2.out]; exact setH_size ht a1.size
      rw [hke, List.take_length]
      clear hke HO
      cases hgb : getB key m.heads with
      | true =>
        have HS : Hid (setHs key text m.heads = out) := by show _ = _; rw [setHs, hgb, if_pos rfl, HO2.out]
        clear hgb
        go_wp2
        refine bodyPost_ret (v := .agg #[.int .i64 m.st, .string m.path, .slice ao out.length c, .slice bo0 m.body.size d0]) (by simp [results, Try.results19, go_sem, z0, z1, z2, z3]) rfl ⟨_, rfl, ?_, ?_⟩
        · have e : setM m key text = ⟨m.st, m.path, out, m.body⟩ := by rw [setM, HS.out]
          rw [e]
          refine sm_rides (O := O) (hs := out) rfl rfl (by omega) n2 hp (by omega) (by exact HSZ.out) HR.out ?_
          iterate 4 (refine ownsRow_setCell_below ?_ (by simp; omega) _)
          exact SM.out.ow
        · iterate 4 (refine Below.setCell ?_ (by simp) _)
          exact bl
      | false =>
        by_cases h6 : out.length < 6
        · have HS : Hid (setHs key text m.heads = out ++ [(key, text)]) := by
            show _ = _
            have h7 : out = m.heads := by rw [HO2.out]; exact setH_not key text m.heads hgb
            rw [setHs, hgb, if_neg (by simp), ← h7, if_pos h6]
          clear hgb
          have h6i : (out.length : Int) < 6 := by omega
          go_wp2_with (at_builtin; refine wpList_append_lies _ rfl (.tmp 46) (.tmp 50) 24 rfl (O + 1) 53 i45 _ 2 32 Try.underlying24 hi45 hz45 hs45 hb45 rfl (by decide) (.slice ao out.length c) out.length (hcells out) rfl (SM.out.ow.alloc _) ⟨wr.heap.size, 0, none⟩ 1 1 [.string key, .string text] rfl rfl ?qnews ?qone (by decide) ?q63 ?qby ?qbase (wr.heap.size + 1) (by simp) ?_)
          case qnews => exact pair_new _ _ _ _
          case qone => intro u hu; simp at hu; rcases hu with rfl | rfl <;> rfl
          case q63 => unfold maxLen; omega
          case qby => omega
          case qbase => simp; omega
          intro g1 cap1 w6 own6 gr6 hor hlt6
          have b6 : Below (O + 1) wr w6 := ⟨gr6.os, gr6.tape, gr6.output, Nat.le_trans (by simp) gr6.size, fun k hk => (gr6.block k (by simp; omega) (fun e => by have := (ow.lt k e.symm).1; omega)).trans (Below.heap_alloc _ _ _ (by omega))⟩
          have NEW : Hid (SMid _ _ _ _ _ _ _ _ _ _ _) := SM.out.grow (x := (key, text)) b6 own6
          have s2 := (b6.cell (p := ⟨O, 2, none⟩) (by show O < _; omega)).trans o2
          have sf := fun j => (b6.frozen (p := ⟨O, j, none⟩) (by show O < _; omega)).trans (of j)
          clear own6 gr6 hor hlt6
          have p0 := (b6.cell (p := ⟨O, 0, none⟩) (by show O < _; omega)).trans o0
          have p1 := (b6.cell (p := ⟨O, 1, none⟩) (by show O < _; omega)).trans o1
          have p3 := (b6.cell (p := ⟨O, 3, none⟩) (by show O < _; omega)).trans o3
          have y0 := (b6.cell (p := ⟨w.heap.size + 1, 0, none⟩) (by show w.heap.size + 1 < _; omega)).trans z0
          have y1 := (b6.cell (p := ⟨w.heap.size + 1, 1, none⟩) (by show w.heap.size + 1 < _; omega)).trans z1
          have y2 := (b6.cell (p := ⟨w.heap.size + 1, 2, none⟩) (by show w.heap.size + 1 < _; omega)).trans z2
          have y3 := (b6.cell (p := ⟨w.heap.size + 1, 3, none⟩) (by show w.heap.size + 1 < _; omega)).trans z3
          have yf := fun j => (b6.frozen (p := ⟨w.heap.size + 1, j, none⟩) (by show w.heap.size + 1 < _; omega)).trans (zf j)
          clear b6 o0 o1 o2 o3 of z0 z1 z2 z3 zf
          go_wp2
          refine bodyPost_ret (v := .agg #[.int .i64 m.st, .string m.path, .slice (some ⟨g1, 0, none⟩) (out.length + 1) cap1, .slice bo0 m.body.size d0]) (by simp [results, Try.results19, go_sem, y0, y1, y2, y3]) rfl ⟨_, rfl, ?_, ?_⟩
          · have e : setM m key text = ⟨m.st, m.path, (out ++ [(key, text)]), m.body⟩ := by rw [setM, HS.out]
            rw [e]
            refine sm_rides (O := O) (hs := (out ++ [(key, text)])) rfl (by simp : (out ++ [(key, text)]).length = out.length + 1) (by omega) n2 hp (by simp; omega) (by intro h hh; rcases List.mem_append.1 hh with hh | hh; exact HSZ.out h hh; simp only [List.mem_singleton] at hh; subst hh; exact ⟨hkey, ht⟩) HR.out ?_
            iterate 4 (refine ownsRow_setCell_below ?_ (by simp; omega) _)
            exact NEW.out.ow
          · iterate 4 (refine Below.setCell ?_ (by simp) _)
            exact NEW.out.bl
        · have HS : Hid (setHs key text m.heads = out) := by
            show _ = _
            have h7 : out = m.heads := by rw [HO2.out]; exact setH_not key text m.heads hgb
            rw [setHs, hgb, if_neg (by simp), ← h7, if_neg h6]
          clear hgb
          have h6i : ¬ (out.length : Int) < 6 := by omega
          go_wp2
          refine bodyPost_ret (v := .agg #[.int .i64 m.st, .string m.path, .slice ao out.length c, .slice bo0 m.body.size d0]) (by simp [results, Try.results19, go_sem, z0, z1, z2, z3]) rfl ⟨_, rfl, ?_, ?_⟩
          · have e : setM m key text = ⟨m.st, m.path, out, m.body⟩ := by rw [setM, HS.out]
            rw [e]
            refine sm_rides (O := O) (hs := out) rfl rfl (by omega) n2 hp (by omega) (by exact HSZ.out) HR.out ?_
            iterate 4 (refine ownsRow_setCell_below ?_ (by simp; omega) _)
            exact SM.out.ow
          · iterate 4 (refine Below.setCell ?_ (by simp) _)
            exact bl
end Go.Proofs.Ytmndhecbjpjamaa
