/- Walks of the document's own Parse: the lines behind the first one. -/
import Derived.Test.YtlkfkhpokkjkpaaDoorMsgW
namespace Go.Proofs.YtlkfkhpokkjkpaaDoor
open Go.RowKit

def strLen : Value → Nat | .string s => s.size | _ => 0

/-- Where Parse stands between two lines. -/
structure RMid (w wr : World) (st : Int) (p : List UInt8) (hs : List Hd) (ao : Option Addr) (c : Nat) : Prop where
  m0 : wr.cell? ⟨w.heap.size + 1, 0, none⟩ = some (.int .i64 st)
  m1 : wr.cell? ⟨w.heap.size + 1, 1, none⟩ = some (.string (B p))
  m2 : wr.cell? ⟨w.heap.size + 1, 2, none⟩ = some (.slice ao hs.length c)
  m3 : wr.cell? ⟨w.heap.size + 1, 3, none⟩ = some (.slice none 0 0)
  mf : ∀ j, wr.frozen? ⟨w.heap.size + 1, j, none⟩ = false
  z0 : wr.cell? ⟨w.heap.size, 0, none⟩ = some (.int .i64 0)
  z1 : wr.cell? ⟨w.heap.size, 1, none⟩ = some (.string ⟨#[]⟩)
  z2 : wr.cell? ⟨w.heap.size, 2, none⟩ = some (.slice none 0 0)
  z3 : wr.cell? ⟨w.heap.size, 3, none⟩ = some (.slice none 0 0)
  zf : ∀ j, wr.frozen? ⟨w.heap.size, j, none⟩ = false
  ow : wr.ownsRow (w.heap.size + 2) 52 2 (.slice ao hs.length c) hs.length (hcells hs)
  bl : Below w.heap.size w wr
  hi : w.heap.size + 1 < wr.heap.size

theorem RMid.keep {w wr w2 : World} {st : Int} {p : List UInt8} {hs : List Hd} {ao : Option Addr} {c : Nat} (h : RMid w wr st p hs ao c) (b : Below wr.heap.size wr w2) : RMid w w2 st p hs ao c := by
  have h2 := h.hi
  have cc := fun k j (hk : k < wr.heap.size) => b.cell (p := ⟨k, j, none⟩) hk
  have cf := fun k j (hk : k < wr.heap.size) => b.frozen (p := ⟨k, j, none⟩) hk
  have := b.size
  exact ⟨by rw [cc _ _ (by omega)]; exact h.m0, by rw [cc _ _ (by omega)]; exact h.m1, by rw [cc _ _ (by omega)]; exact h.m2, by rw [cc _ _ (by omega)]; exact h.m3,
    fun j => by rw [cf _ _ (by omega)]; exact h.mf j, by rw [cc _ _ (by omega)]; exact h.z0, by rw [cc _ _ (by omega)]; exact h.z1, by rw [cc _ _ (by omega)]; exact h.z2, by rw [cc _ _ (by omega)]; exact h.z3,
    fun j => by rw [cf _ _ (by omega)]; exact h.zf j, owns_below h.ow b, h.bl.trans (b.mono (by omega)), by omega⟩

theorem RMid.grow {w w5 w6 : World} {st : Int} {p : List UInt8} {hs : List Hd} {ao : Option Addr} {c : Nat} {o : Obj} {g cap : Nat} {k t : ByteArray} (h : RMid w w5 st p hs ao c)
    (gr : (w5.alloc o).grownBy w6 (Value.slice ao hs.length c).ownBlock) (own : w6.ownsRow (w.heap.size + 2) 52 2 (.slice (some ⟨g, 0, none⟩) (hs.length + 1) cap) (hs.length + 1) (hcells hs ++ [.string k, .string t])) :
    RMid w (w6.setCell ⟨w.heap.size + 1, 2, none⟩ (.slice (some ⟨g, 0, none⟩) (hs.length + 1) cap)) st p (hs ++ [(k, t)]) (some ⟨g, 0, none⟩) cap := by
  have h2 := h.hi
  obtain ⟨M, hM⟩ : ∃ M, w.heap.size + 1 = M := ⟨_, rfl⟩
  have hM' : w.heap.size + 2 = M + 1 := by omega
  have b : Below (M + 1) w5 w6 := ⟨gr.os, gr.tape, gr.output, Nat.le_trans (by simp) gr.size, fun k hk => (gr.block k (by simp; omega) (fun e => by have := (h.ow.lt k e.symm).1; omega)).trans (Below.heap_alloc _ _ _ (by omega))⟩
  have cc := fun k j (hk : k < M + 1) => b.cell (p := ⟨k, j, none⟩) hk
  have cf := fun k j (hk : k < M + 1) => b.frozen (p := ⟨k, j, none⟩) hk
  have hl : (hs ++ [(k, t)]).length = hs.length + 1 := by simp
  have bs := b.size
  rw [hM]
  have sc := fun k j (hk : k ≠ M) => World.cell?_of_block (w := w6) (w' := w6.setCell ⟨M, 2, none⟩ (.slice (some ⟨g, 0, none⟩) (hs.length + 1) cap)) (a := ⟨k, j, none⟩) (Below.heap_setCell _ _ _ _ hk)
  have sf := fun k j (hk : k ≠ M) => World.frozen?_of_block (w := w6) (w' := w6.setCell ⟨M, 2, none⟩ (.slice (some ⟨g, 0, none⟩) (hs.length + 1) cap)) (a := ⟨k, j, none⟩) (Below.heap_setCell _ _ _ _ hk)
  have so := fun j (hj : j ≠ 2) => World.cell?_setCell_other w6 ⟨M, 2, none⟩ ⟨M, j, none⟩ (.slice (some ⟨g, 0, none⟩) (hs.length + 1) cap) (fun e => hj (by injection e with _ e2; exact e2.symm))
  refine ⟨?_, ?_, ?_, ?_, ?_, ?_, ?_, ?_, ?_, ?_, ?_, ?_, ?_⟩
  · rw [hM, so 0 (by omega), cc _ _ (by omega), ← hM]; exact h.m0
  · rw [hM, so 1 (by omega), cc _ _ (by omega), ← hM]; exact h.m1
  · rw [hl, hM]; exact World.cell?_setCell_same w6 _ _ (u := .slice ao hs.length c) (by rw [cc _ _ (by omega), ← hM]; exact h.m2)
  · rw [hM, so 3 (by omega), cc _ _ (by omega), ← hM]; exact h.m3
  · intro j; simp only [World.frozen?_setCell]; rw [hM, cf _ _ (by omega), ← hM]; exact h.mf j
  · rw [sc _ _ (by omega), cc _ _ (by omega)]; exact h.z0
  · rw [sc _ _ (by omega), cc _ _ (by omega)]; exact h.z1
  · rw [sc _ _ (by omega), cc _ _ (by omega)]; exact h.z2
  · rw [sc _ _ (by omega), cc _ _ (by omega)]; exact h.z3
  · intro j; rw [sf _ _ (by omega), cf _ _ (by omega)]; exact h.zf j
  · rw [hl, hcells_append]; exact ownsRow_setCell_below own (by show M < w.heap.size + 2; omega) _
  · exact (h.bl.trans (b.mono (by omega))).setCell (by show w.heap.size ≤ M; omega) _
  · simp; omega

def zeroO : Obj := .cells #[.int .i64 0, .string ⟨#[]⟩, .slice none 0 0, .slice none 0 0] 25
theorem rmid_ask (w : World) (n : Nat) (p : List UInt8) : RMid w (((w.alloc (.cells #[.int .i64 0, .string ⟨#[]⟩, .slice none 0 0, .slice none 0 0] 25)).drewN n).alloc (.cells #[.int .i64 0, .string (B p), .slice none 0 0, .slice none 0 0] 25)) 0 p [] none 0 where
  m0 := by simp [go_sem]
  m1 := by simp [go_sem]
  m2 := by simp [go_sem]
  m3 := by simp [go_sem]
  mf j := by simp [go_sem]
  z0 := by simp [go_sem]
  z1 := by simp [go_sem]
  z2 := by simp [go_sem]
  z3 := by simp [go_sem]
  zf j := by simp [go_sem]
  ow := World.ownsRow_nil _ _ _ _
  bl := (belDrewN ((Below.refl _ _).alloc (Nat.le_refl _) _) n).alloc (by simp) _
  hi := by simp
theorem rmid_say (w w4 : World) (n : Nat) (st : Int)
    (hd0 : ∀ j, w4.cell? ⟨w.heap.size + 1, j, none⟩ = (((w.alloc zeroO).drewN n).alloc zeroO).cell? ⟨w.heap.size + 1, j, none⟩) (hd1 : ∀ j, w4.cell? ⟨w.heap.size, j, none⟩ = (((w.alloc zeroO).drewN n).alloc zeroO).cell? ⟨w.heap.size, j, none⟩)
    (hd2 : ∀ j, w4.frozen? ⟨w.heap.size + 1, j, none⟩ = (((w.alloc zeroO).drewN n).alloc zeroO).frozen? ⟨w.heap.size + 1, j, none⟩) (hd3 : ∀ j, w4.frozen? ⟨w.heap.size, j, none⟩ = (((w.alloc zeroO).drewN n).alloc zeroO).frozen? ⟨w.heap.size, j, none⟩)
    (b : Below w.heap.size w w4) (hh : w.heap.size + 1 < w4.heap.size) : RMid w (w4.setCell ⟨w.heap.size + 1, 0, none⟩ (.int .i64 st)) st [] [] none 0 := by
  unfold zeroO at hd0 hd1 hd2 hd3
  exact {
    m0 := by simp [go_sem, hd0]
    m1 := by simp [go_sem, hd0, B]
    m2 := by simp [go_sem, hd0]
    m3 := by simp [go_sem, hd0]
    mf := fun j => by simp [go_sem, hd2]
    z0 := by simp [go_sem, hd1]
    z1 := by simp [go_sem, hd1]
    z2 := by simp [go_sem, hd1]
    z3 := by simp [go_sem, hd1]
    zf := fun j => by simp [go_sem, hd3]
    ow := World.ownsRow_nil _ _ _ _
    bl := b.setCell (by simp) _
    hi := by simpa using hh }

/-- The message that Parse has, when the lines are read. -/
theorem RMid.msAt {w w4 : World} {st : Int} {p : List UInt8} {hs : List Hd} {ao : Option Addr} {c : Nat} (h : RMid w w4 st p hs ao c) (r : List UInt8) (cap : Nat) (hr : (B r).size ≤ 1048576) (hp : (B p).size ≤ 1048576) (hl : hs.length ≤ 1048576) (hh : ∀ h ∈ hs, h.1.size ≤ 1048576 ∧ h.2.size ≤ 1048576) :
    MsAt ((Lib.bytesWorld w4 5 (B r)).setCell ⟨w.heap.size + 1, 3, none⟩ (.slice (some ⟨w4.heap.size, 0, none⟩) (B r).size cap)) (.agg #[.int .i64 st, .string (B p), .slice ao hs.length c, .slice (some ⟨w4.heap.size, 0, none⟩) (B r).size cap]) ⟨st, B p, hs, B r⟩ := by
  have h4 := h.hi
  have OW := (h.keep (below_bytes w4 (B r))).ow
  have hcap2 : hs.length ≤ c ∧ c ≤ maxLen := by
    rcases OW.2 with ⟨hv, h0⟩ | ⟨g, cap, cur, hv, _, _, h5, h6, _⟩
    · simp only [Value.slice.injEq] at hv; rw [h0, hv.2.2]; unfold maxLen; omega
    · simp only [Value.slice.injEq, true_and] at hv; rw [hv.2]; exact ⟨h5, h6⟩
  have hnil : ao = none → c = 0 := by
    intro e
    rcases OW.2 with ⟨hv, _⟩ | ⟨g, cap, cur, hv, _⟩
    · simp at hv; exact hv.2.2
    · simp [e] at hv
  refine ⟨⟨ao, c, some ⟨w4.heap.size, 0, none⟩, cap, rfl, headsAt_of_owns (base := w.heap.size + 2) (c := c) ?_ (by unfold maxLen; show hs.length ≤ _; omega) (fun h hh' => by have := hh h hh'; unfold maxLen; omega), ?_, hnil, (fun e => by cases e), hcap2⟩, ?_, ?_, ?_⟩
  · exact ownsRow_setCell_below OW (by show w.heap.size + 1 < _; omega) _
  · exact BytesAt.set (bytesAt_new w4 (B r) (by unfold maxLen; omega)) _ _ (by intro b off e; simp at e; simp; omega)
  · unfold maxLen; show (B p).size ≤ _; omega
  · show hs.length * 32 ≤ _; omega
  · show (B r).size ≤ _; omega

set_option maxRecDepth 100000 in
set_option maxHeartbeats 4000000 in
theorem rparse_some (s : ByteArray) (w : World) (hs : s.size ≤ 1048576) (hg : Glob w) (l0 r0 : List UInt8) (hL : cutL 10 s.data.toList = (l0, r0, true)) (h4 : 4 ≤ l0.length)
    (st : Int) (p : List UInt8) (hw : (l0.take 4 == [97, 115, 107, 32]) = true ∧ st = 0 ∧ p = l0.drop 4 ∨ (l0.take 4 == [97, 115, 107, 32]) = false ∧ (l0.take 4 == [115, 97, 121, 32]) = true ∧ Lib.atoiAll (l0.drop 4) = .ok st ∧ ¬ st = 0 ∧ Lib.itoa st = l0.drop 4 ∧ p = [])
    (E : Int) (MM : Ms) (hE : (match rreadR r0 [] with | none => 2 | some x => wrongE ⟨st, B p, x.1, B x.2⟩) = E) (hM : (match rreadR r0 [] with | none => msZero | some x => if wrongE ⟨st, B p, x.1, B x.2⟩ = 0 then ⟨st, B p, x.1, B x.2⟩ else msZero) = MM) :
    Calls Tryd.prog 20 #[.string s] w fun e w' => ∃ v, e = .returned (.tuple #[v, .int .i64 E]) ∧ MsAt w' v MM ∧ Below w.heap.size w w' := by
  have HL : Hid (cutL 10 s.data.toList = _) := hL
  have HE : Hid (_ = E) := hE
  have HM : Hid (_ = MM) := hM
  have hlen := cutL_len 10 s.data.toList
  have hsl : s.data.toList.length = s.size := by simp
  rw [hL] at hlen
  simp only at hlen
  have HPS : Hid ((B p).size ≤ 1048576) := by
    show (B p).size ≤ _
    rw [B_size]
    rcases hw with ⟨_, _, h⟩ | ⟨_, _, _, _, _, h⟩
    · rw [h, List.length_drop]; omega
    · rw [h]; simp
  have HR0 : Hid (r0.length ≤ 1048576) := by show _ ≤ _; omega
  have HZ : Hid ((B (l0.drop 4)).size ≤ 281474976710656) := by
    show (B (l0.drop 4)).size ≤ _
    rw [B_size, List.length_drop]
    omega
  have HS : Hid (s.size ≤ 281474976710656) := by show _ ≤ _; omega
  clear hL hE hM hlen hsl
  have q : ¬ ((B l0).size : Int) < 4 := by rw [B_size]; omega
  have q2 : 4 ≤ ((B l0).size : Int) := by rw [B_size]; omega
  have e4 : (B l0).extract 4 (B l0).size = B (l0.drop 4) := by rw [extract_B, B_data, List.take_of_length_le (by rw [B_size]; simp)]
  have bw : ∀ o o' m, Below w.heap.size w (((w.alloc o).drewN m).alloc o') := fun o o' m => (belDrewN ((Below.refl _ _).alloc (Nat.le_refl _) _) m).alloc (by simp) _
  rcases hw with ⟨h5, hst, hp⟩ | ⟨h5, h6, hO, h0, h1, hp⟩
  case' inl =>
    have h5' : (((B l0).extract 0 4).toList == [97, 115, 107, 32]) = true := by rw [extract4]; exact h5
    clear h5
    go_enter Tryd.func20, Tryd.ntmps20
    go_wp2_with (go_at_call 51; refine (upTo_any s 10 10 rfl _ HS.out).mono ?_; rintro e w1 ⟨rfl, n, rfl⟩; rw [HL.out])
    rw [← hp]
    clear hp
    have mid : RMid w (((w.alloc (.cells #[.int .i64 0, .string ⟨#[]⟩, .slice none 0 0, .slice none 0 0] 25)).drewN n).alloc (.cells #[.int .i64 0, .string (B p), .slice none 0 0, .slice none 0 0] 25)) st p [] none 0 := by
      rw [hst]
      exact rmid_ask w n p
  case' inr =>
    have h5' : (((B l0).extract 0 4).toList == [97, 115, 107, 32]) = false := by rw [extract4]; exact h5
    have h6' : (((B l0).extract 0 4).toList == [115, 97, 121, 32]) = true := by rw [extract4]; exact h6
    clear h5 h6
    have HB : Hid (-9223372036854775808 ≤ st ∧ st ≤ 9223372036854775807) := Lib.atoiAll_bounds hO
    have HO : Hid (Lib.atoiAll (B (l0.drop 4)).data.toList = .ok st) := by show _ = _; rw [B_data]; exact hO
    clear hO
    have HZ2 : Hid ((B (l0.drop 4)).size ≤ 9223372036854775806) := by show _ ≤ _; have := HZ.out; omega
    have q0 : (st == 0) = false := by simp [h0]
    have q3 : ((B (Lib.itoa st)).toList == (B (l0.drop 4)).toList) = true := by rw [toList_eq, toList_eq, B_data, B_data]; simpa using h1
    clear h0 h1
    go_enter Tryd.func20, Tryd.ntmps20
    go_wp2_with (go_at_call 51; refine (upTo_any s 10 10 rfl _ HS.out).mono ?_; rintro e w1 ⟨rfl, n, rfl⟩; rw [HL.out])
    refine (Tryd.strconv_Atoi_ok _ HZ2.out st HO.out _).mono ?_
    rintro e w2 ⟨rfl, hw2⟩
    have b2 := atoi_bel hw2
    clear hw2
    have hcx := fun k j (hk : k < w.heap.size + 2) => b2.cell (p := ⟨k, j, none⟩) (by simp; omega)
    have hcf := fun k j (hk : k < w.heap.size + 2) => b2.frozen (p := ⟨k, j, none⟩) (by simp; omega)
    have hsz2 := b2.size
    simp at hsz2
    have hg2 := (hg.below (bw _ _ _)).below b2
    have b02 : Below w.heap.size w w2 := (bw _ _ _).trans (b2.mono (by simp; omega))
    go_wp2
    refine wp_region_quiet_below Tryd.mixed (by kernel_rfl) ?_
    repeat (go_big_quiet_step (first | (go_at_call 38; exact Calls.regrown_of (itoa_below st HB.out.1 HB.out.2 _ ((hg2.below (below_regrown w2 _ _)).tab)))))
    refine wpQuiet_nil ?_
    intro _ hw'
    obtain ⟨⟨dq, osq⟩, hw''⟩ := hw'
    subst hw''
    have b4 := below_regrown w2 dq osq
    obtain ⟨w4, hw4⟩ : ∃ w4, Sort.grow (redrawn w2 dq) osq = w4 := ⟨_, rfl⟩
    rw [hw4] at b4 ⊢
    clear hw4
    have hsz4 := b4.size
    have hdx := fun k j (hk : k < w.heap.size + 2) => (b4.cell (p := ⟨k, j, none⟩) (by show k < _; omega)).trans (hcx k j hk)
    have hdf := fun k j (hk : k < w.heap.size + 2) => (b4.frozen (p := ⟨k, j, none⟩) (by show k < _; omega)).trans (hcf k j hk)
    have hd0 := fun j => hdx (w.heap.size + 1) j (by omega)
    have hd1 := fun j => hdx w.heap.size j (by omega)
    have hd2 := fun j => hdf (w.heap.size + 1) j (by omega)
    have hd3 := fun j => hdf w.heap.size j (by omega)
    have b04 : Below w.heap.size w w4 := b02.trans (b4.mono (by omega))
    clear b4 b2 hcx hcf hdx hdf
    go_wp2
    have mid : RMid w (w4.setCell ⟨w.heap.size + 1, 0, none⟩ (.int .i64 st)) st p [] none 0 := by
      rw [hp]
      exact rmid_say w w4 n st hd0 hd1 hd2 hd3 b04 (by omega)
    clear hd0 hd1 hd2 hd3 hp
    have hst := True.intro
  all_goals
    clear hst bw e4 q q2
    go_loopw [0] (fun sv wr => ∃ rest hs ao c, sv = .string rest ∧ RMid w wr st p hs ao c ∧ Hid (rest.size + hs.length ≤ 1048576 ∧ rreadR rest.data.toList hs = rreadR r0 [] ∧ ∀ h ∈ hs, h.1.size ≤ 1048576 ∧ h.2.size ≤ 1048576)) (fun sv _ => strLen sv)
    case atStart => exact ⟨B r0, [], none, 0, rfl, mid, by rw [B_size]; simpa using HR0.out, by rw [B_data], by simp⟩
    case round =>
      clear mid
      obtain ⟨rest, hs', ao, c, rfl, mid, HH⟩ := hrel
      have HZ1 : Hid (rest.size ≤ 281474976710656) := by show _ ≤ _; have := HH.out.1; omega
      go_wp2_with fail
      refine (upTo_any rest 10 10 rfl _ HZ1.out).mono ?_
      rintro e w4 ⟨rfl, nn, hw4⟩
      have b4 : Below wr.heap.size wr w4 := by rw [hw4]; exact belDrewN (Below.refl _ _) nn
      clear hw4
      obtain ⟨l, r, en, hC⟩ : ∃ l r en, cutL 10 rest.data.toList = (l, r, en) := ⟨_, _, _, rfl⟩
      have hlen := cutL_len 10 rest.data.toList
      rw [hC] at hlen ⊢
      have HC : Hid (cutL 10 rest.data.toList = (l, r, en)) := hC
      clear hC
      simp only at hlen ⊢
      have HL1 : Hid (l.length ≤ rest.size ∧ r.length ≤ rest.size ∧ (en = true → r.length < rest.size)) := by
        have h2 : rest.data.toList.length = rest.size := by simp
        rw [h2] at hlen
        exact ⟨hlen.2.2, hlen.1, hlen.2.1⟩
      clear hlen
      have md := mid.keep b4
      clear b4 mid
      obtain ⟨m0, m1, m2, m3, mf, z0, z1, z2, z3, zf, mow, mbl, mhi⟩ := md
      have md : Hid (RMid w w4 st p hs' ao c) := ⟨m0, m1, m2, m3, mf, z0, z1, z2, z3, zf, mow, mbl, mhi⟩
      cases en with
      | false =>
        have HRN : Hid (rreadR r0 [] = none) := by show _ = _; rw [← HH.out.2.1, rreadR_eq, HC.out]; simp
        go_wp2_with fail
        refine (no_any 2 _).mono ?_
        rintro e w9 ⟨rfl, b9⟩
        simp only [msgV]
        have hbx := fun j => b9.cell (p := ⟨w.heap.size, j, none⟩) (by show w.heap.size < _; omega)
        have hfx := fun j => b9.frozen (p := ⟨w.heap.size, j, none⟩) (by show w.heap.size < _; omega)
        have hsz9 := b9.size
        have hlt9 : w.heap.size < w9.heap.size := by omega
        go_wp2
        refine bodyPost_ret (v := .tuple #[.agg #[.int .i64 0, .string ⟨#[]⟩, .slice none 0 0, .slice none 0 0], .int .i64 2]) (by simp [results, Tryd.results20, go_sem, hbx, B, z0, z1, z2, z3]) rfl ⟨.agg #[.int .i64 0, .string ⟨#[]⟩, .slice none 0 0, .slice none 0 0], ?_, ?_, ?_⟩
        · rw [← HE.out, HRN.out]
        · rw [← HM.out, HRN.out]; exact msAt_zero _
        · iterate 4 (refine Below.setCell ?_ (by simp) _)
          exact mbl.trans (b9.mono (by omega))
      | true =>
        by_cases hl : l = []
        · subst hl
          have HRN : Hid (rreadR r0 [] = some (hs', r)) := by show _ = _; rw [← HH.out.2.1, rreadR_eq, HC.out]; simp
          have q1 : (B []).toList.isEmpty = true := by rw [toList_eq, B_data]; rfl
          have hcv := Lib.run_convert_string_bytes (P := Tryd.prog) w4 9 23 5 (B r) Tryd.underlying9 Tryd.underlying23 Tryd.underlying5
          have HBS : Hid ((B r).size ≤ 1048576) := by show (B r).size ≤ _; rw [B_size]; have h1 := HL1.out.2.1; have h2 := HH.out.1; omega
          obtain ⟨cap, hcap⟩ : ∃ cap, grownCap w4 (B r).size 0 5 = cap := ⟨_, rfl⟩
          rw [hcap] at hcv
          have HMS := md.out.msAt r cap HBS.out HPS.out (by have := HH.out.1; omega) HH.out.2.2
          have MD : Hid (RMid w (Lib.bytesWorld w4 5 (B r)) st p hs' ao c) := md.out.keep (below_bytes w4 (B r))
          obtain ⟨w5, hw5⟩ : ∃ w5, Lib.bytesWorld w4 5 (B r) = w5 := ⟨_, rfl⟩
          rw [hw5] at hcv HMS MD
          have h4' := mhi
          clear hw5 hcap m0 m1 m2 m3 mf z0 z1 z2 z3 zf mow mbl mhi md
          obtain ⟨m0, m1, m2, m3, mf, z0, z1, z2, z3, zf, mow, mbl, mhi⟩ := MD.out
          clear mow
          have H4 : Hid (w.heap.size + 1 < w4.heap.size) := h4'
          clear h4'
          have HWR := rwrong_any _ _ _ HMS
          have HMS : Hid (MsAt _ _ _) := HMS
          have HWR : Hid (Calls Tryd.prog 11 _ _ _) := HWR
          go_wp2_with fail
          refine Calls.mono HWR.out ?_
          clear HWR
          rintro e w6 ⟨rfl, b6⟩
          have kx := fun j => b6.cell (p := ⟨w.heap.size + 1, j, none⟩) (by simp; omega)
          have ky := fun j => b6.cell (p := ⟨w.heap.size, j, none⟩) (by simp; omega)
          have kf := fun j => b6.frozen (p := ⟨w.heap.size, j, none⟩) (by simp; omega)
          have hs6 := b6.size
          simp at hs6
          have HM6 : Hid (MsAt w6 _ _) := HMS.out.below (Nat.le_refl _) b6
          have bl6 : Below w.heap.size w w6 := (mbl.setCell (by simp) _).trans (b6.mono (by simp; omega))
          have HF : Hid (From (w.heap.size + 1) (.agg #[.int .i64 st, .string (B p), .slice ao hs'.length c, .slice (some ⟨w4.heap.size, 0, none⟩) (B r).size cap])) := by
            refine ⟨_, _, _, _, _, _, _, _, rfl, ?_, ?_⟩
            · intro a e
              have := (MD.out.ow.lt a.block (by rw [e]; rfl)).1
              omega
            · intro a e
              simp only [Option.some.injEq] at e
              subst e
              have := H4.out
              show w.heap.size + 1 ≤ w4.heap.size
              omega
          clear b6 mbl
          by_cases h0 : wrongE ⟨st, B p, hs', B r⟩ = 0
          · have HE0 : Hid (E = 0) := by show E = 0; rw [← HE.out, HRN.out]; exact h0
            have HM0 : Hid (MM = ⟨st, B p, hs', B r⟩) := by show MM = _; rw [← HM.out, HRN.out]; exact if_pos h0
            rw [h0]
            go_wp2
            refine bodyPost_ret (v := .tuple #[.agg #[.int .i64 st, .string (B p), .slice ao hs'.length c, .slice (some ⟨w4.heap.size, 0, none⟩) (B r).size cap], .int .i64 0]) (by simp [results, Tryd.results20, go_sem, ky, z0, z1, z2, z3]) rfl ⟨.agg #[.int .i64 st, .string (B p), .slice ao hs'.length c, .slice (some ⟨w4.heap.size, 0, none⟩) (B r).size cap], ?_, ?_, ?_⟩
            · rw [HE0.out]
            · rw [HM0.out]
              iterate 4 (refine MsAt.low ?_ HF.out (by simp) _)
              exact HM6.out
            · iterate 4 (refine Below.setCell ?_ (by simp) _)
              exact bl6
          · obtain ⟨rr, hrr⟩ : ∃ rr, wrongE ⟨st, B p, hs', B r⟩ = rr := ⟨_, rfl⟩
            have HE0 : Hid (E = rr) := by show E = rr; rw [← HE.out, HRN.out]; exact hrr
            have HM0 : Hid (MM = msZero) := by show MM = _; rw [← HM.out, HRN.out]; exact if_neg h0
            have qr : (rr != 0) = true := by rw [← hrr]; simpa using h0
            rw [hrr]
            clear hrr h0
            go_wp2_with fail
            refine (no_any rr _).mono ?_
            rintro e w9 ⟨rfl, b9⟩
            simp only [msgV]
            have hbx := fun j => b9.cell (p := ⟨w.heap.size, j, none⟩) (by show w.heap.size < _; omega)
            have hfx := fun j => b9.frozen (p := ⟨w.heap.size, j, none⟩) (by show w.heap.size < _; omega)
            have hsz9 := b9.size
            have hlt9 : w.heap.size < w9.heap.size := by omega
            go_wp2
            refine bodyPost_ret (v := .tuple #[.agg #[.int .i64 0, .string ⟨#[]⟩, .slice none 0 0, .slice none 0 0], .int .i64 rr]) (by simp [results, Tryd.results20, go_sem, hbx, B, ky, z0, z1, z2, z3]) rfl ⟨.agg #[.int .i64 0, .string ⟨#[]⟩, .slice none 0 0, .slice none 0 0], ?_, ?_, ?_⟩
            · rw [HE0.out]
            · rw [HM0.out]; exact msAt_zero _
            · iterate 4 (refine Below.setCell ?_ (by simp) _)
              exact bl6.trans (b9.mono (by omega))
        · have q1 : (B l).toList.isEmpty = false := by rw [toList_eq, B_data]; simpa using hl
          have HLB : Hid ((B l).size ≤ 281474976710656) := by show (B l).size ≤ _; rw [B_size]; have h1 := HL1.out.1; have h2 := HZ1.out; omega
          go_wp2_with fail
          refine (upTo_any (B l) 61 61 rfl _ HLB.out).mono ?_
          rintro e w5 ⟨rfl, nn, hw5⟩
          have b5 : Below w4.heap.size w4 w5 := by rw [hw5]; exact belDrewN (Below.refl _ _) nn
          clear hw5
          rw [B_data]
          obtain ⟨kk, tt, ok, hK⟩ : ∃ kk tt ok, cutL 61 l = (kk, tt, ok) := ⟨_, _, _, rfl⟩
          have hlen := cutL_len 61 l
          rw [hK] at hlen ⊢
          have HK : Hid (cutL 61 l = (kk, tt, ok)) := hK
          clear hK
          simp only at hlen ⊢
          have HL2 : Hid ((B kk).size ≤ 1048576 ∧ (B tt).size ≤ 1048576) := by
            have h1 := HL1.out.1
            have h2 := HH.out.1
            rw [B_size, B_size]
            exact ⟨by omega, by omega⟩
          clear hlen
          have MD : Hid (RMid w w5 st p hs' ao c) := md.out.keep b5
          clear m0 m1 m2 m3 mf z0 z1 z2 z3 zf mow mbl mhi md b5
          obtain ⟨m0, m1, m2, m3, mf, z0, z1, z2, z3, zf, mow, mbl, mhi⟩ := MD.out
          have HRR : Hid (rreadR rest.data.toList hs' = if ok = false then none else rreadR r (hs' ++ [(B kk, B tt)])) := by
            show rreadR rest.data.toList hs' = _
            rw [rreadR_eq, HC.out]
            simp only [HK.out]
            rw [if_neg (by simp), if_neg hl]
          cases ok with
          | false =>
            have HRN : Hid (rreadR r0 [] = none) := by show _ = _; rw [← HH.out.2.1, HRR.out]; simp
            go_wp2_with fail
            refine (no_any 2 _).mono ?_
            rintro e w9 ⟨rfl, b9⟩
            simp only [msgV]
            have hbx := fun j => b9.cell (p := ⟨w.heap.size, j, none⟩) (by show w.heap.size < _; omega)
            have hfx := fun j => b9.frozen (p := ⟨w.heap.size, j, none⟩) (by show w.heap.size < _; omega)
            have hsz9 := b9.size
            have hlt9 : w.heap.size < w9.heap.size := by omega
            go_wp2
            refine bodyPost_ret (v := .tuple #[.agg #[.int .i64 0, .string ⟨#[]⟩, .slice none 0 0, .slice none 0 0], .int .i64 2]) (by simp [results, Tryd.results20, go_sem, hbx, B, z0, z1, z2, z3]) rfl ⟨.agg #[.int .i64 0, .string ⟨#[]⟩, .slice none 0 0, .slice none 0 0], ?_, ?_, ?_⟩
            · rw [← HE.out, HRN.out]
            · rw [← HM.out, HRN.out]; exact msAt_zero _
            · iterate 4 (refine Below.setCell ?_ (by simp) _)
              exact mbl.trans (b9.mono (by omega))
          | true =>
            have i6 : (hs'.length : Int) ≤ 1048576 := by have := HH.out.1; omega
            obtain ⟨i45, hi45, hz45, hs45, hb45⟩ := info_parts Tryd.info45
            go_wp2_with (at_builtin; refine wpList_append_lies _ rfl (.tmp 97) (.tmp 101) 22 rfl (w.heap.size + 2) 52 i45 _ 2 32 Tryd.underlying22 hi45 hz45 hs45 hb45 rfl (by decide) (.slice ao hs'.length c) hs'.length (hcells hs') rfl (MD.out.ow.alloc _) ⟨w5.heap.size, 0, none⟩ 1 1 [.string (B kk), .string (B tt)] rfl rfl ?qnews ?qone (by decide) ?q63 ?qby ?qbase (w5.heap.size + 1) (by simp) ?_)
            case qnews => exact pair_new _ _ _ _
            case qone => intro u hu; simp at hu; rcases hu with rfl | rfl <;> rfl
            case q63 => unfold maxLen; omega
            case qby => omega
            case qbase => simp; omega
            intro g1 cap1 w6 own6 gr6 hor hlt6
            have b6 : Below (w.heap.size + 2) w5 w6 := ⟨gr6.os, gr6.tape, gr6.output, Nat.le_trans (by simp) gr6.size, fun k hk => (gr6.block k (by simp; omega) (fun e => by have := (mow.lt k e.symm).1; omega)).trans (Below.heap_alloc _ _ _ (by omega))⟩
            have s2 := (b6.cell (p := ⟨w.heap.size + 1, 2, none⟩) (by show w.heap.size + 1 < _; omega)).trans m2
            have sf := fun j => (b6.frozen (p := ⟨w.heap.size + 1, j, none⟩) (by show w.heap.size + 1 < _; omega)).trans (mf j)
            have NEW : Hid _ := MD.out.grow gr6 own6
            clear own6 gr6 hor hlt6 b6
            go_wp2
            go_roundw
            case rel =>
              refine ⟨B r, _, _, _, rfl, NEW.out, ?_, ?_, ?_⟩
              · rw [B_size]; have h1 := HL1.out.2.2 (by trivial); have h2 := HH.out.1; simp; omega
              · rw [B_data, ← HH.out.2.1, HRR.out]; simp
              · intro h hh
                rcases List.mem_append.1 hh with hh | hh
                · exact HH.out.2.2 h hh
                · obtain rfl : h = (B kk, B tt) := by simpa using hh
                  exact HL2.out
            case measure =>
              simp only [strLen, B_size]
              exact HL1.out.2.2 (by trivial)
end Go.Proofs.YtlkfkhpokkjkpaaDoor
