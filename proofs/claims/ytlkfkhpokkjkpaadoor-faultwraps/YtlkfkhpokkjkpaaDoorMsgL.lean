/- The walk of the law MsgSet. -/
import Derived.Test.YtlkfkhpokkjkpaaDoorMsgK
namespace Go.Proofs.YtlkfkhpokkjkpaaDoor
open Go.RowKit

theorem getB_cases (key : ByteArray) : ∀ hs : List Hd, getB key hs = false ∨ getB key hs = true
  | hs => by cases getB key hs <;> simp
theorem getS_none {key : ByteArray} : ∀ {hs : List Hd}, getB key hs = false → getS key hs = ByteArray.empty
  | [], _ => rfl
  | h :: t, e => by
    by_cases hk : h.1 = key
    · simp [getB, hk] at e
    · simp [getB, hk] at e
      simp [getS, hk, getS_none e]
theorem get_setH (key text : ByteArray) : ∀ hs : List Hd, getB key hs = true → getB key (setH key text hs) = true ∧ getS key (setH key text hs) = text
  | [], e => by simp [getB] at e
  | h :: t, e => by
    by_cases hk : h.1 = key
    · simp [setH, getB, getS, hk]
    · simp [getB, hk] at e
      have := get_setH key text t e
      simp [setH, getB, getS, hk, this]
theorem get_setH_other (key text other : ByteArray) (ho : other ≠ key) : ∀ hs : List Hd, getB other (setH key text hs) = getB other hs ∧ getS other (setH key text hs) = getS other hs
  | [] => by simp [setH]
  | h :: t => by
    have ih := get_setH_other key text other ho t
    by_cases hk : h.1 = key
    · have h2 : ¬ h.1 = other := fun e => ho (by rw [← e, hk])
      simp [setH, getB, getS, hk] 
      have h3 : ¬ key = other := fun e => ho e.symm
      simp [h3]
    · simp [setH, hk]
      by_cases h2 : h.1 = other
      · simp [getB, getS, h2]
      · simp [getB, getS, h2, ih]
theorem get_append (key text other : ByteArray) : ∀ hs : List Hd, (getB key hs = false → getB key (hs ++ [(key, text)]) = true ∧ getS key (hs ++ [(key, text)]) = text) ∧ (other ≠ key → getB other (hs ++ [(key, text)]) = getB other hs ∧ getS other (hs ++ [(key, text)]) = getS other hs)
  | [] => by
    refine ⟨fun _ => by simp [getB, getS], fun h => ?_⟩
    have h3 : ¬ key = other := fun e => h e.symm
    simp [getB, getS, h3]
  | h :: t => by
    obtain ⟨i1, i2⟩ := get_append key text other t
    constructor
    · intro e
      by_cases hk : h.1 = key
      · simp [getB, hk] at e
      · simp [getB, hk] at e
        have := i1 e
        simp [getB, getS, hk, this]
    · intro ho
      have := i2 ho
      by_cases h2 : h.1 = other
      · simp [getB, getS, h2]
      · simp [getB, getS, h2, this]

theorem set_there {key text : ByteArray} {hs : List Hd} (h : getB key hs = true ∨ hs.length < 6) : getB key (setHs key text hs) = true ∧ getS key (setHs key text hs) = text := by
  unfold setHs
  cases hb : getB key hs with
  | true => rw [if_pos rfl]; exact get_setH key text hs hb
  | false =>
    rw [if_neg (by simp)]
    rcases h with h | h
    · rw [hb] at h; cases h
    · rw [if_pos h]; exact (get_append key text key hs).1 hb
theorem set_full {key text : ByteArray} {hs : List Hd} (h : getB key hs = false) (hl : 6 ≤ hs.length) : setHs key text hs = hs := by
  unfold setHs; rw [h, if_neg (by simp), if_neg (by omega)]
theorem set_other {key text other : ByteArray} {hs : List Hd} (ho : other ≠ key) : getB other (setHs key text hs) = getB other hs ∧ getS other (setHs key text hs) = getS other hs := by
  unfold setHs
  cases hb : getB key hs with
  | true => rw [if_pos rfl]; exact get_setH_other key text other ho hs
  | false =>
    rw [if_neg (by simp)]
    by_cases hl : hs.length < 6
    · rw [if_pos hl]; exact (get_append key text other hs).2 ho
    · rw [if_neg hl]; exact ⟨rfl, rfl⟩
theorem same_refl (m : Ms) : sameB m m = true := by simp [sameB]

/-- A struct of four cells in a block of its own. -/
structure BoxAt (w : World) (b : Nat) (x0 x1 x2 x3 : Value) : Prop where
  c0 : w.cell? ⟨b, 0, none⟩ = some x0
  c1 : w.cell? ⟨b, 1, none⟩ = some x1
  c2 : w.cell? ⟨b, 2, none⟩ = some x2
  c3 : w.cell? ⟨b, 3, none⟩ = some x3
  lt : b < w.heap.size
theorem BoxAt.keep {w w' : World} {b : Nat} {x0 x1 x2 x3 : Value} (h : BoxAt w b x0 x1 x2 x3) (bl : Below w.heap.size w w') : BoxAt w' b x0 x1 x2 x3 := by
  have cc := fun j => bl.cell (p := ⟨b, j, none⟩) h.lt
  exact ⟨by rw [cc]; exact h.c0, by rw [cc]; exact h.c1, by rw [cc]; exact h.c2, by rw [cc]; exact h.c3, Nat.lt_of_lt_of_le h.lt bl.size⟩
theorem boxAt_new (w : World) (x0 x1 x2 x3 : Value) (t : TypeId) : BoxAt (w.alloc (.cells #[x0, x1, x2, x3] t)) w.heap.size x0 x1 x2 x3 :=
  ⟨by simp, by simp, by simp, by simp, by simp⟩

theorem MsAt.parts {w : World} {x : Int} {p : ByteArray} {ao bo : Option Addr} {n c k d : Nat} {m : Ms} (h : MsAt w (.agg #[.int .i64 x, .string p, .slice ao n c, .slice bo k d]) m) : HeadsAt w ao m.heads ∧ BytesAt w bo m.body := by
  obtain ⟨⟨ao', c', bo', d', e, h1, h2, _⟩, _, _⟩ := h
  simp only [Value.agg.injEq, Array.mk.injEq, List.cons.injEq, Value.slice.injEq, and_true] at e
  obtain ⟨_, _, ⟨rfl, _, _⟩, ⟨rfl, _, _⟩⟩ := e
  exact ⟨h1, h2⟩

/-- Where the law stands: two messages in boxes of its own. -/
structure SetInv (w wi : World) (A X : Nat) (a0 a1 a2 a3 b0 b1 b2 b3 : Value) (m S : Ms) : Prop where
  ba : BoxAt wi A a0 a1 a2 a3
  bb : BoxAt wi X b0 b1 b2 b3
  ma : MsAt wi (.agg #[a0, a1, a2, a3]) m
  mb : MsAt wi (.agg #[b0, b1, b2, b3]) S
  bl : Below w.heap.size w wi
theorem SetInv.keep {w wi wj : World} {A X : Nat} {a0 a1 a2 a3 b0 b1 b2 b3 : Value} {m S : Ms} (h : SetInv w wi A X a0 a1 a2 a3 b0 b1 b2 b3 m S) (b : Below wi.heap.size wi wj) : SetInv w wj A X a0 a1 a2 a3 b0 b1 b2 b3 m S :=
  ⟨h.ba.keep b, h.bb.keep b, h.ma.below (Nat.le_refl _) b, h.mb.below (Nat.le_refl _) b, h.bl.trans (b.mono h.bl.size)⟩

set_option maxRecDepth 100000 in
set_option maxHeartbeats 1000000 in
theorem msgSet_walk (m : Ms) (key text other : ByteArray) (v : Value) (w : World) (hm : MsAt w v m) (hkey : key.size ≤ maxLen) (ht : text.size ≤ maxLen) (hg : Glob w) :
    Calls Tryd.prog 5 #[v, .string key, .string text, .string other] w fun e w' => e = .returned (.bool true) ∧ Below w.heap.size w w' := by
  have HK : Hid (key.size ≤ maxLen ∧ text.size ≤ maxLen) := ⟨hkey, ht⟩
  clear hkey ht
  have hbw : ∀ o, Below w.heap.size w (w.alloc o) := fun o => (Below.refl _ _).alloc (Nat.le_refl _) o
  have hm' := fun o => hm.below (Nat.le_refl _) (hbw o)
  obtain ⟨⟨ao, c, bo, d, hv, a1, a2, n1, n2, n3, n4⟩, hp, R⟩ := hm
  subst hv
  clear n1 n2 n3 n4 R a1 a2 hp
  go_enter Tryd.func5, Tryd.ntmps5
  go_wp2_with fail
  refine (alive_any _ (hg.below (hbw _))).mono ?_
  rintro e w1 ⟨rfl, b1⟩
  have BX1 : Hid (BoxAt w1 w.heap.size (.int .i64 m.st) (.string m.path) (.slice ao m.heads.length c) (.slice bo m.body.size d)) := (boxAt_new w _ _ _ _ 25).keep b1
  have MS1 : Hid (MsAt w1 (.agg #[.int .i64 m.st, .string m.path, .slice ao m.heads.length c, .slice bo m.body.size d]) m) := (hm' _).below (Nat.le_refl _) b1
  have BL1 : Hid (Below w.heap.size w w1) := (hbw _).trans (b1.mono (by simp))
  clear b1 hm'
  obtain ⟨c0, c1, c2, c3, lt1⟩ := BX1.out
  go_wp2_with fail
  refine (set_any m key text _ _ MS1.out HK.out.1 HK.out.2).mono ?_
  rintro e w2 ⟨v2, rfl, m2, b2⟩
  have hv2' : ∃ ao2 cc2 bo2 d2, v2 = .agg #[.int .i64 m.st, .string m.path, .slice ao2 (setHs key text m.heads).length cc2, .slice bo2 m.body.size d2] := by
    obtain ⟨⟨ao2, c2, bo2, d2, hv2, _⟩, _, _⟩ := m2
    exact ⟨ao2, c2, bo2, d2, hv2⟩
  obtain ⟨ao2, cc2, bo2, d2, rfl⟩ := hv2'
  have ab : ∀ o, Below w2.heap.size w2 (w2.alloc o) := fun o => (Below.refl _ _).alloc (Nat.le_refl _) o
  clear c0 c1 c2 c3 lt1
  have lt2 : w.heap.size < w2.heap.size := Nat.lt_of_lt_of_le BX1.out.lt b2.size
  have INV : Hid (SetInv w (w2.alloc (.cells #[.int .i64 m.st, .string m.path, .slice ao2 (setHs key text m.heads).length cc2, .slice bo2 m.body.size d2] 25)) w.heap.size w2.heap.size (.int .i64 m.st) (.string m.path) (.slice ao m.heads.length c) (.slice bo m.body.size d) (.int .i64 m.st) (.string m.path) (.slice ao2 (setHs key text m.heads).length cc2) (.slice bo2 m.body.size d2) m (setM m key text)) :=
    ⟨(BX1.out.keep b2).keep (ab _), boxAt_new w2 _ _ _ _ 25, (MS1.out.below (Nat.le_refl _) b2).below (Nat.le_refl _) (ab _), m2.below (Nat.le_refl _) (ab _), (BL1.out.trans (b2.mono BL1.out.size)).trans ((ab _).mono (Nat.le_trans BL1.out.size b2.size))⟩
  obtain ⟨c0, c1, c2, c3, _⟩ := BX1.out.keep b2
  clear b2 m2 BX1 MS1 BL1 ab
  go_wp2_with fail
  refine (get_any m.heads key _ _ _ _ _ _ INV.out.ma.parts.1).mono ?_
  rintro e w3 ⟨rfl, b3⟩
  have I3 : Hid _ := INV.out.keep b3
  clear c0 c1 c2 c3 b3 INV
  obtain ⟨c0, c1, c2, c3, l0⟩ := I3.out.ba
  obtain ⟨x0, x1, x2, x3, l1⟩ := I3.out.bb
  go_wp2_with fail
  refine (get_any (setHs key text m.heads) key _ _ _ _ _ _ I3.out.mb.parts.1).mono ?_
  rintro e w4 ⟨rfl, b4⟩
  have I4 : Hid _ := I3.out.keep b4
  clear c0 c1 c2 c3 x0 x1 x2 x3 l0 l1 b4 I3
  obtain ⟨c0, c1, c2, c3, l0⟩ := I4.out.ba
  obtain ⟨x0, x1, x2, x3, l1⟩ := I4.out.bb
  by_cases hfull : getB key m.heads = false ∧ 6 ≤ m.heads.length
  · obtain ⟨hf1, hf2⟩ := hfull
    have hs := set_full (text := text) hf1 hf2
    have hs2 : setM m key text = m := by rw [setM, hs]
    have g1 := getS_none hf1
    rw [hs, hf1, g1]
    rw [hs, hs2] at I4
    rw [hs] at x2
    have i6 : (6 : Int) ≤ (m.heads.length : Int) := by omega
    clear hs hs2 hf1 hf2 g1
    go_wp2_with fail
    refine (same_any m m _ _ _ I4.out.mb I4.out.ma).mono ?_
    rintro e w5 ⟨rfl, b5⟩
    rw [same_refl]
    have q0 : ByteArray.empty.toList = [] := by rw [toList_eq]; rfl
    go_wp2
    go_ret
    exact ⟨rfl, (I4.out.keep b5).bl⟩
  · have hh : getB key m.heads = true ∨ m.heads.length < 6 := by
      cases hb : getB key m.heads with
      | true => exact .inl rfl
      | false => right; rcases Nat.lt_or_ge m.heads.length 6 with h | h
                 · exact h
                 · exact absurd ⟨hb, h⟩ hfull
    obtain ⟨t1, t2⟩ := set_there (text := text) hh
    rw [t1, t2]
    have cva := conv_body I4.out.ma.parts.2 d
    have cvb := conv_body (bs := m.body) I4.out.mb.parts.2 d2
    clear t1 t2 hfull
    cases hb : getB key m.heads with
    | true =>
      clear hh
      by_cases ho : other = key
      · have qo : (other.toList == key.toList) = true := by rw [ho]; simp
        have HO : Hid (other = key) := ho
        clear ho
        go_wp2
        go_ret
        exact ⟨rfl, I4.out.bl⟩
      · have qo : (other.toList == key.toList) = false := by rw [beq_eq_false_iff_ne]; exact fun e => ho (bytes_eq e)
        obtain ⟨o1, o2⟩ := set_other (text := text) (hs := m.heads) ho
        have HO : Hid (getB other (setHs key text m.heads) = getB other m.heads ∧ getS other (setHs key text m.heads) = getS other m.heads) := ⟨o1, o2⟩
        clear ho o1 o2
        go_wp2_with fail
        refine (get_any m.heads other _ _ _ _ _ _ I4.out.ma.parts.1).mono ?_
        rintro e w5 ⟨rfl, b5⟩
        have I5 : Hid _ := I4.out.keep b5
        clear c0 c1 c2 c3 x0 x1 x2 x3 l0 l1 b5 I4 cva cvb
        obtain ⟨x0, x1, x2, x3, l1⟩ := I5.out.bb
        go_wp2_with fail
        refine (get_any (setHs key text m.heads) other _ _ _ _ _ _ I5.out.mb.parts.1).mono ?_
        rintro e w6 ⟨rfl, b6⟩
        rw [HO.out.1, HO.out.2]
        have I6 : Hid _ := I5.out.keep b6
        clear x0 x1 x2 x3 l1 b6 I5
        go_wp2
        go_ret
        exact ⟨rfl, I6.out.bl⟩
    | false =>
      have hl : m.heads.length < 6 := by
        rcases hh with h | h
        · rw [hb] at h; cases h
        · exact h
      have i6 : ¬ (6 : Int) ≤ (m.heads.length : Int) := by omega
      clear hh
      by_cases ho : other = key
      · have qo : (other.toList == key.toList) = true := by rw [ho]; simp
        have HO : Hid (other = key) := ho
        clear ho
        go_wp2
        go_ret
        exact ⟨rfl, I4.out.bl⟩
      · have qo : (other.toList == key.toList) = false := by rw [beq_eq_false_iff_ne]; exact fun e => ho (bytes_eq e)
        obtain ⟨o1, o2⟩ := set_other (text := text) (hs := m.heads) ho
        have HO : Hid (getB other (setHs key text m.heads) = getB other m.heads ∧ getS other (setHs key text m.heads) = getS other m.heads) := ⟨o1, o2⟩
        clear ho o1 o2
        go_wp2_with fail
        refine (get_any m.heads other _ _ _ _ _ _ I4.out.ma.parts.1).mono ?_
        rintro e w5 ⟨rfl, b5⟩
        have I5 : Hid _ := I4.out.keep b5
        clear c0 c1 c2 c3 x0 x1 x2 x3 l0 l1 b5 I4 cva cvb
        obtain ⟨x0, x1, x2, x3, l1⟩ := I5.out.bb
        go_wp2_with fail
        refine (get_any (setHs key text m.heads) other _ _ _ _ _ _ I5.out.mb.parts.1).mono ?_
        rintro e w6 ⟨rfl, b6⟩
        rw [HO.out.1, HO.out.2]
        have I6 : Hid _ := I5.out.keep b6
        clear x0 x1 x2 x3 l1 b6 I5
        go_wp2
        go_ret
        exact ⟨rfl, I6.out.bl⟩
end Go.Proofs.YtlkfkhpokkjkpaaDoor
