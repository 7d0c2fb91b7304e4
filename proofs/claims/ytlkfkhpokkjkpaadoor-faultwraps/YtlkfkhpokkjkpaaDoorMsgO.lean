/- The walk of the law MsgTurns. -/
import Derived.Test.YtlkfkhpokkjkpaaDoorMsgL
import Derived.Test.YtlkfkhpokkjkpaaDoorMsgN
namespace Go.Proofs.YtlkfkhpokkjkpaaDoor
open Go.RowKit

theorem parse_ok {l : List UInt8} (h : parseE l = 0) : readL l = some (parseM l) ∧ wrongE (parseM l) = 0 := by
  unfold parseE at h
  unfold parseM
  cases hr : readL l with
  | none => rw [hr] at h; cases h
  | some m => rw [hr] at h; simp only at h; simp [h]
theorem parse_bad {l : List UInt8} (h : ¬ parseE l = 0) : parseM l = msZero := by
  unfold parseE at h
  unfold parseM
  cases hr : readL l with
  | none => rfl
  | some m => rw [hr] at h; simp only at h; simp [h]
theorem lines_len : ∀ (hs : List Hd), (∀ h ∈ hs, h.1.size ≤ 8 ∧ h.2.size ≤ 20) → (hs.flatMap lineL).length ≤ hs.length * 30
  | [], _ => by simp
  | h :: t, H => by
    have h1 := H h (by simp)
    have h2 := lines_len t fun x hx => H x (by simp [hx])
    have e1 : h.1.data.toList.length = h.1.size := by simp
    have e2 : h.2.data.toList.length = h.2.size := by simp
    simp only [List.flatMap_cons, List.length_append, lineL, List.length_cons, List.length_nil, e1, e2]
    omega
theorem text_len {m : Ms} (h : wrongE m = 0) : (B (textL m)).size ≤ 300 := by
  obtain ⟨h1, h2, h3, h4⟩ := right_parts h
  have hh := lines_len m.heads (by
    intro x hx
    obtain ⟨i, hi, rfl⟩ := List.mem_iff_getElem.1 hx
    obtain ⟨k1, _, k3⟩ := okHs_at h3 i hi
    exact ⟨keyB_size k1, linB_size k3⟩)
  have hl : (headL m).length ≤ 29 := by
    unfold headL
    rcases h4 with ⟨a, b⟩ | ⟨a, b, c, d⟩
    · have := pthB_size b
      have e : m.path.data.toList.length = m.path.size := by simp
      rw [if_pos a]
      simp only [List.length_append, List.length_cons, List.length_nil, e]
      omega
    · have := itoa_short m.st b c
      rw [if_neg a]
      simp only [List.length_append, List.length_cons, List.length_nil]
      omega
  have e : m.body.data.toList.length = m.body.size := by simp
  rw [B_size]
  simp only [textL, List.length_append, List.length_cons, List.length_nil, e]
  omega
theorem parse_text {m : Ms} (h : wrongE m = 0) : parseE (B (textL m)).data.toList = 0 ∧ parseM (B (textL m)).data.toList = m := by
  rw [B_data, parseE, parseM, read_text h]
  simp [h]

set_option maxRecDepth 100000 in
set_option maxHeartbeats 1000000 in
theorem msgTurns_walk (m : Ms) (s : ByteArray) (v : Value) (w : World) (hm : MsAt w v m) (hs : s.size ≤ 140737488351232) (hg : Glob w) :
    Calls Tryd.prog 4 #[v, .string s] w fun e w' => e = .returned (.bool true) ∧ Below w.heap.size w w' := by
  have HS : Hid (s.size ≤ 140737488351232) := hs
  clear hs
  have hbw : ∀ o, Below w.heap.size w (w.alloc o) := fun o => (Below.refl _ _).alloc (Nat.le_refl _) o
  have hm' := fun o => hm.below (Nat.le_refl _) (hbw o)
  obtain ⟨⟨ao, c, bo, d, hv, a1, a2, n1, n2, n3, n4⟩, hp, R⟩ := hm
  subst hv
  clear n1 n2 n3 n4 R a1 a2 hp
  go_enter Tryd.func4, Tryd.ntmps4
  go_wp2_with fail
  refine (alive_any _ (hg.below (hbw _))).mono ?_
  rintro e w1 ⟨rfl, b1⟩
  have BX1 : Hid (BoxAt w1 w.heap.size (.int .i64 m.st) (.string m.path) (.slice ao m.heads.length c) (.slice bo m.body.size d)) := (boxAt_new w _ _ _ _ 25).keep b1
  have MS1 : Hid (MsAt w1 (.agg #[.int .i64 m.st, .string m.path, .slice ao m.heads.length c, .slice bo m.body.size d]) m) := (hm' _).below (Nat.le_refl _) b1
  have BL1 : Hid (Below w.heap.size w w1) := (hbw _).trans (b1.mono (by simp))
  have GL1 : Hid (Glob w1) := (hg.below (hbw _)).below b1
  clear b1 hm'
  obtain ⟨c0, c1, c2, c3, lt1⟩ := BX1.out
  go_wp2_with fail
  refine (wrong_any m _ _ MS1.out).mono ?_
  rintro e w2 ⟨rfl, b2⟩
  have BX2 : Hid _ := BX1.out.keep b2
  have MS2 : Hid (MsAt w2 (.agg #[.int .i64 m.st, .string m.path, .slice ao m.heads.length c, .slice bo m.body.size d]) m) := MS1.out.below (Nat.le_refl _) b2
  have BL2 : Hid (Below w.heap.size w w2) := BL1.out.trans (b2.mono BL1.out.size)
  have GL2 : Hid (Glob w2) := GL1.out.below b2
  clear b2 BX1 MS1 BL1 GL1 c0 c1 c2 c3 lt1
  by_cases hw : wrongE m = 0
  · rw [hw]
    obtain ⟨t1, t2⟩ := parse_text hw
    have tl := text_len hw
    have HW : Hid (wrongE m = 0) := hw
    have HT : Hid (parseE (B (textL m)).data.toList = 0 ∧ parseM (B (textL m)).data.toList = m ∧ (B (textL m)).size ≤ 300) := ⟨t1, t2, tl⟩
    clear hw t1 t2 tl
    obtain ⟨c0, c1, c2, c3, lt2⟩ := BX2.out
    go_wp2_with fail
    refine (text_right m _ _ MS2.out HW.out GL2.out.tab).mono ?_
    rintro e w3 ⟨rfl, b3⟩
    have BX3 : Hid _ := BX2.out.keep b3
    have MS3 : Hid (MsAt w3 (.agg #[.int .i64 m.st, .string m.path, .slice ao m.heads.length c, .slice bo m.body.size d]) m) := MS2.out.below (Nat.le_refl _) b3
    have BL3 : Hid (Below w.heap.size w w3) := BL2.out.trans (b3.mono BL2.out.size)
    have GL3 : Hid (Glob w3) := GL2.out.below b3
    clear b3 BX2 MS2 BL2 GL2 c0 c1 c2 c3 lt2
    go_wp2_with fail
    refine (parse_any (B (textL m)) _ (by have := HT.out.2.2; omega) GL3.out).mono ?_
    rintro e w4 ⟨v4, rfl, m4, b4⟩
    rw [HT.out.1]
    rw [HT.out.2.1] at m4
    have X4 : Hid (MsAt w4 v4 m) := m4
    obtain ⟨⟨ao4, c4, bo4, d4, hv4, _⟩, _, _⟩ := m4
    subst hv4
    have ab : ∀ o, Below w4.heap.size w4 (w4.alloc o) := fun o => (Below.refl _ _).alloc (Nat.le_refl _) o
    have BX4 : Hid _ := (BX3.out.keep b4)
    have MS4 : Hid (MsAt w4 (.agg #[.int .i64 m.st, .string m.path, .slice ao m.heads.length c, .slice bo m.body.size d]) m) := MS3.out.below (Nat.le_refl _) b4
    have BL4 : Hid (Below w.heap.size w w4) := BL3.out.trans (b4.mono BL3.out.size)
    have GL4 : Hid (Glob w4) := GL3.out.below b4
    clear b4 BX3 MS3 BL3 GL3
    obtain ⟨c0, c1, c2, c3, lt4⟩ := BX4.out
    go_wp2_with fail
    refine (same_any m m _ _ _ (MS4.out.below (Nat.le_refl _) (ab _)) (X4.out.below (Nat.le_refl _) (ab _))).mono ?_
    rintro e w5 ⟨rfl, b5⟩
    rw [same_refl]
    have BL : Hid (Below w.heap.size w w5) := BL4.out.trans (((ab _).mono BL4.out.size).trans (b5.mono (by have := BL4.out.size; simp; omega)))
    have GL : Hid (Glob w5) := (GL4.out.below (ab _)).below b5
    clear b5 BX4 MS4 BL4 GL4 c0 c1 c2 c3 lt4 X4 ab
    go_wp2_with fail
    refine (parse_any s _ HS.out GL.out).mono ?_
    rintro e wp ⟨vp, rfl, mp, bp⟩
    have BLp : Hid (Below w.heap.size w wp) := BL.out.trans (bp.mono BL.out.size)
    have GLp : Hid (Glob wp) := GL.out.below bp
    by_cases hE : parseE s.data.toList = 0
    · obtain ⟨hr, hw⟩ := parse_ok hE
      have htx := text_read hr hw
      rw [hE]
      have MP : Hid (MsAt wp vp (parseM s.data.toList)) := mp
      obtain ⟨xm, hxm⟩ : ∃ xm, parseM s.data.toList = xm := ⟨_, rfl⟩
      rw [hxm] at MP hr hw htx mp
      have HW : Hid (wrongE xm = 0) := hw
      have HT : Hid (B (textL xm) = s) := by show B (textL xm) = s; rw [htx, B_of]
      obtain ⟨⟨ao9, c9, bo9, d9, hv9, _⟩, _, _⟩ := mp
      subst hv9
      clear hE hr hw htx hxm bp
      have ab : ∀ o, Below wp.heap.size wp (wp.alloc o) := fun o => (Below.refl _ _).alloc (Nat.le_refl _) o
      go_wp2_with fail
      refine (text_right xm _ _ (MP.out.below (Nat.le_refl _) (ab _)) HW.out (GLp.out.below (ab _)).tab).mono ?_
      rintro e wt ⟨rfl, bt⟩
      rw [HT.out]
      go_wp2
      go_ret
      exact ⟨rfl, BLp.out.trans (((ab _).mono BLp.out.size).trans (bt.mono (by have := BLp.out.size; simp; omega)))⟩
    · have hz := parse_bad hE
      obtain ⟨r, hr⟩ : ∃ r, parseE s.data.toList = r := ⟨_, rfl⟩
      rw [hr] at hE ⊢
      have hne : (r != 0) = true := by simpa using hE
      rw [hz] at mp
      have MP : Hid (MsAt wp vp msZero) := mp
      obtain ⟨⟨ao9, c9, bo9, d9, hv9, _⟩, _, _⟩ := mp
      subst hv9
      clear hE hr hz bp
      have ab : ∀ o, Below wp.heap.size wp (wp.alloc o) := fun o => (Below.refl _ _).alloc (Nat.le_refl _) o
      go_wp2_with fail
      refine (same_any msZero msZero _ _ _ (MP.out.below (Nat.le_refl _) (ab _)) (msAt_zero _)).mono ?_
      rintro e wt ⟨rfl, bt⟩
      rw [same_refl]
      go_wp2
      go_ret
      exact ⟨rfl, BLp.out.trans (((ab _).mono BLp.out.size).trans (bt.mono (by have := BLp.out.size; simp; omega)))⟩
  · obtain ⟨r, hr⟩ : ∃ r, wrongE m = r := ⟨_, rfl⟩
    rw [hr] at hw ⊢
    have hne : (r == 0) = false := by simpa using hw
    have BL : Hid (Below w.heap.size w w2) := BL2.out
    have GL : Hid (Glob w2) := GL2.out
    clear hw hr BX2 MS2 BL2 GL2
    go_wp2_with fail
    refine (parse_any s _ HS.out GL.out).mono ?_
    rintro e wp ⟨vp, rfl, mp, bp⟩
    have BLp : Hid (Below w.heap.size w wp) := BL.out.trans (bp.mono BL.out.size)
    have GLp : Hid (Glob wp) := GL.out.below bp
    by_cases hE : parseE s.data.toList = 0
    · obtain ⟨hr, hw⟩ := parse_ok hE
      have htx := text_read hr hw
      rw [hE]
      have MP : Hid (MsAt wp vp (parseM s.data.toList)) := mp
      obtain ⟨xm, hxm⟩ : ∃ xm, parseM s.data.toList = xm := ⟨_, rfl⟩
      rw [hxm] at MP hr hw htx mp
      have HW : Hid (wrongE xm = 0) := hw
      have HT : Hid (B (textL xm) = s) := by show B (textL xm) = s; rw [htx, B_of]
      obtain ⟨⟨ao9, c9, bo9, d9, hv9, _⟩, _, _⟩ := mp
      subst hv9
      clear hE hr hw htx hxm bp
      have ab : ∀ o, Below wp.heap.size wp (wp.alloc o) := fun o => (Below.refl _ _).alloc (Nat.le_refl _) o
      go_wp2_with fail
      refine (text_right xm _ _ (MP.out.below (Nat.le_refl _) (ab _)) HW.out (GLp.out.below (ab _)).tab).mono ?_
      rintro e wt ⟨rfl, bt⟩
      rw [HT.out]
      go_wp2
      go_ret
      exact ⟨rfl, BLp.out.trans (((ab _).mono BLp.out.size).trans (bt.mono (by have := BLp.out.size; simp; omega)))⟩
    · have hz := parse_bad hE
      obtain ⟨r, hr⟩ : ∃ r, parseE s.data.toList = r := ⟨_, rfl⟩
      rw [hr] at hE ⊢
      have hne : (r != 0) = true := by simpa using hE
      rw [hz] at mp
      have MP : Hid (MsAt wp vp msZero) := mp
      obtain ⟨⟨ao9, c9, bo9, d9, hv9, _⟩, _, _⟩ := mp
      subst hv9
      clear hE hr hz bp
      have ab : ∀ o, Below wp.heap.size wp (wp.alloc o) := fun o => (Below.refl _ _).alloc (Nat.le_refl _) o
      go_wp2_with fail
      refine (same_any msZero msZero _ _ _ (MP.out.below (Nat.le_refl _) (ab _)) (msAt_zero _)).mono ?_
      rintro e wt ⟨rfl, bt⟩
      rw [same_refl]
      go_wp2
      go_ret
      exact ⟨rfl, BLp.out.trans (((ab _).mono BLp.out.size).trans (bt.mono (by have := BLp.out.size; simp; omega)))⟩
end Go.Proofs.YtlkfkhpokkjkpaaDoor
