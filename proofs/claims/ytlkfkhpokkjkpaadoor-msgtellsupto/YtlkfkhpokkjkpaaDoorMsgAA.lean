/- The walk of the law MsgTells. -/
import Derived.Test.YtlkfkhpokkjkpaaDoorMsgZ
import Derived.Deep.RegionHeld3
namespace Go.Proofs.YtlkfkhpokkjkpaaDoor
open Go.RowKit

/-- What Text says. -/
def txS (m : Ms) : ByteArray := if wrongE m = 0 then B (textL m) else B []
theorem text_all (m : Ms) (v : Value) (w : World) (hm : MsAt w v m) (hg : GlobT w) :
    Calls Tryd.prog 8 #[v] w fun e w' => e = .returned (.tuple #[.string (txS m), .int .i64 (wrongE m)]) ∧ Below w.heap.size w w' := by
  by_cases h : wrongE m = 0
  · rw [txS, if_pos h, h]; exact text_right m v w hm h hg
  · rw [txS, if_neg h]; exact text_wrong m v w hm h
theorem rtext_all (m : Ms) (v : Value) (w : World) (hm : MsAt w v m) (hg : GlobT w) :
    Calls Tryd.prog 9 #[v] w fun e w' => e = .returned (.tuple #[.string (txS m), .int .i64 (wrongE m)]) ∧ Below w.heap.size w w' := by
  by_cases h : wrongE m = 0
  · rw [txS, if_pos h, h]; exact rtext_right m v w hm h hg
  · rw [txS, if_neg h]; exact rtext_wrong m v w hm h
theorem key_bel (s : ByteArray) (w : World) (hs : s.size ≤ maxLen) : Calls Tryd.prog 12 #[.string s] w fun e w' => e = .returned (.bool (keyB s)) ∧ Below w.heap.size w w' :=
  (key_any s w hs).mono fun _ _ ⟨he, hw⟩ => ⟨he, by rw [hw]; exact Below.refl _ _⟩
theorem path_bel (s : ByteArray) (w : World) (hs : s.size ≤ maxLen) : Calls Tryd.prog 14 #[.string s] w fun e w' => e = .returned (.bool (pthB s)) ∧ Below w.heap.size w w' :=
  (path_any s w hs).mono fun _ _ ⟨he, hw⟩ => ⟨he, by rw [hw]; exact Below.refl _ _⟩
theorem rkey_bel (s : ByteArray) (w : World) (hs : s.size ≤ maxLen) : Calls Tryd.prog 13 #[.string s] w fun e w' => e = .returned (.bool (keyB s)) ∧ Below w.heap.size w w' :=
  (rkey_any s w hs).mono fun _ _ ⟨he, n, hw⟩ => ⟨he, by rw [hw]; exact belDrewN (Below.refl _ _) n⟩
theorem rpath_bel (s : ByteArray) (w : World) (hs : s.size ≤ maxLen) : Calls Tryd.prog 15 #[.string s] w fun e w' => e = .returned (.bool (pthB s)) ∧ Below w.heap.size w w' :=
  (rpath_any s w hs).mono fun _ _ ⟨he, n, hw⟩ => ⟨he, by rw [hw]; exact belDrewN (Below.refl _ _) n⟩
theorem own_ms (m : Ms) (v : Value) (w : World) (hm : MsAt w v m) :
    Calls Tryd.prog 17 #[v] w fun e w' => ∃ v', e = .returned v' ∧ MsAt w' v' m ∧ Below w.heap.size w w' := by
  have hm' := hm
  obtain ⟨⟨ao, c, bo, d, e, a1, a2, _⟩, hp, r⟩ := hm'
  refine (own_any m v w hm).mono ?_
  rintro e' w' ⟨ao', c', bo', d', rfl, ow, bl⟩
  exact ⟨_, rfl, msAt_of_owns ow hp r a1.small a1.size a2.small, bl⟩
theorem sameB_self (m : Ms) : sameB m m = true := by simp [sameB]

/-- Two boxes as they lie, and nothing below is otherwise. -/
theorem two_keep {h : Nat} {w1 W w' : World} {x0 x1 x2 x3 y0 y1 y2 y3 : Value}
    (hs : W.cell? ⟨h, 0, none⟩ = some x0 ∧ W.cell? ⟨h, 1, none⟩ = some x1 ∧ W.cell? ⟨h, 2, none⟩ = some x2 ∧ W.cell? ⟨h, 3, none⟩ = some x3 ∧ W.cell? ⟨h + 1, 0, none⟩ = some y0 ∧ W.cell? ⟨h + 1, 1, none⟩ = some y1 ∧ W.cell? ⟨h + 1, 2, none⟩ = some y2 ∧ W.cell? ⟨h + 1, 3, none⟩ = some y3 ∧ Below (h + 2) w1 W ∧ h + 2 ≤ W.heap.size)
    (hb : Below W.heap.size W w') :
    w'.cell? ⟨h, 0, none⟩ = some x0 ∧ w'.cell? ⟨h, 1, none⟩ = some x1 ∧ w'.cell? ⟨h, 2, none⟩ = some x2 ∧ w'.cell? ⟨h, 3, none⟩ = some x3 ∧ w'.cell? ⟨h + 1, 0, none⟩ = some y0 ∧ w'.cell? ⟨h + 1, 1, none⟩ = some y1 ∧ w'.cell? ⟨h + 1, 2, none⟩ = some y2 ∧ w'.cell? ⟨h + 1, 3, none⟩ = some y3 ∧ Below (h + 2) w1 w' ∧ h + 2 ≤ w'.heap.size := by
  obtain ⟨a0, a1, a2, a3, b0, b1, b2, b3, bl, sz⟩ := hs
  have c := fun k j (hk : k < W.heap.size) => hb.cell (p := ⟨k, j, none⟩) hk
  exact ⟨by rw [c _ _ (by omega)]; exact a0, by rw [c _ _ (by omega)]; exact a1, by rw [c _ _ (by omega)]; exact a2, by rw [c _ _ (by omega)]; exact a3, by rw [c _ _ (by omega)]; exact b0, by rw [c _ _ (by omega)]; exact b1, by rw [c _ _ (by omega)]; exact b2, by rw [c _ _ (by omega)]; exact b3,
    bl.trans (hb.mono sz), Nat.le_trans sz hb.size⟩
theorem two_keep2 {h : Nat} {w1 W w' : World} {x0 x1 x2 x3 y0 y1 y2 y3 : Value} (hb : Below W.heap.size W w')
    (hs : W.cell? ⟨h, 0, none⟩ = some x0 ∧ W.cell? ⟨h, 1, none⟩ = some x1 ∧ W.cell? ⟨h, 2, none⟩ = some x2 ∧ W.cell? ⟨h, 3, none⟩ = some x3 ∧ W.cell? ⟨h + 1, 0, none⟩ = some y0 ∧ W.cell? ⟨h + 1, 1, none⟩ = some y1 ∧ W.cell? ⟨h + 1, 2, none⟩ = some y2 ∧ W.cell? ⟨h + 1, 3, none⟩ = some y3 ∧ Below (h + 2) w1 W ∧ h + 2 ≤ W.heap.size) :
    w'.cell? ⟨h, 0, none⟩ = some x0 ∧ w'.cell? ⟨h, 1, none⟩ = some x1 ∧ w'.cell? ⟨h, 2, none⟩ = some x2 ∧ w'.cell? ⟨h, 3, none⟩ = some x3 ∧ w'.cell? ⟨h + 1, 0, none⟩ = some y0 ∧ w'.cell? ⟨h + 1, 1, none⟩ = some y1 ∧ w'.cell? ⟨h + 1, 2, none⟩ = some y2 ∧ w'.cell? ⟨h + 1, 3, none⟩ = some y3 ∧ Below (h + 2) w1 w' ∧ h + 2 ≤ w'.heap.size := two_keep hs hb
theorem two_ms {h : Nat} {w w1 W : World} {x0 x1 x2 x3 y0 y1 y2 y3 : Value} {v : Value} {m : Ms} (hm : MsAt w v m) (hw : Below w.heap.size w w1) (hh : w.heap.size ≤ h + 2)
    (hs : W.cell? ⟨h, 0, none⟩ = some x0 ∧ W.cell? ⟨h, 1, none⟩ = some x1 ∧ W.cell? ⟨h, 2, none⟩ = some x2 ∧ W.cell? ⟨h, 3, none⟩ = some x3 ∧ W.cell? ⟨h + 1, 0, none⟩ = some y0 ∧ W.cell? ⟨h + 1, 1, none⟩ = some y1 ∧ W.cell? ⟨h + 1, 2, none⟩ = some y2 ∧ W.cell? ⟨h + 1, 3, none⟩ = some y3 ∧ Below (h + 2) w1 W ∧ h + 2 ≤ W.heap.size) : MsAt W v m := by
  obtain ⟨_, _, _, _, _, _, _, _, bl, _⟩ := hs
  exact hm.below (Nat.le_refl _) (hw.trans (bl.mono hh))

theorem two_bel {h : Nat} {w w1 W : World} {x0 x1 x2 x3 y0 y1 y2 y3 : Value} (hw : Below w.heap.size w w1) (hh : w.heap.size ≤ h + 2)
    (hs : W.cell? ⟨h, 0, none⟩ = some x0 ∧ W.cell? ⟨h, 1, none⟩ = some x1 ∧ W.cell? ⟨h, 2, none⟩ = some x2 ∧ W.cell? ⟨h, 3, none⟩ = some x3 ∧ W.cell? ⟨h + 1, 0, none⟩ = some y0 ∧ W.cell? ⟨h + 1, 1, none⟩ = some y1 ∧ W.cell? ⟨h + 1, 2, none⟩ = some y2 ∧ W.cell? ⟨h + 1, 3, none⟩ = some y3 ∧ Below (h + 2) w1 W ∧ h + 2 ≤ W.heap.size) : Below w.heap.size w W := by
  obtain ⟨_, _, _, _, _, _, _, _, bl, _⟩ := hs
  exact hw.trans (bl.mono hh)
theorem bel_alloc (w : World) (o : Obj) : Below w.heap.size w (w.alloc o) := (Below.refl _ _).alloc (Nat.le_refl _) _

set_option maxRecDepth 100000 in
set_option maxHeartbeats 4000000 in
theorem tells_any (m n : Ms) (v u : Value) (s key : ByteArray) (status : Int) (w : World) (hm : MsAt w v m) (hn : MsAt w u n) (hs : s.size ≤ 1048576) (hk : key.size ≤ maxLen) (hl : m.heads.length ≤ 1048576) (hg : Glob w) :
    Calls Tryd.prog 3 #[v, u, .string s, .string key, .int .i64 status] w fun e w' => e = .returned (.bool true) ∧ Below w.heap.size w w' := by
  have HS : Hid (s.size ≤ 1048576) := hs
  have HS2 : Hid (s.size ≤ maxLen) := by show s.size ≤ maxLen; unfold maxLen; omega
  have HS3 : Hid (s.size ≤ 140737488351232) := by show _ ≤ _; omega
  have HKS : Hid (key.size ≤ maxLen) := hk
  have HLS : Hid (m.heads.length ≤ 1048576) := hl
  clear hs hk hl
  have HM : Hid (MsAt w v m) := hm
  have HN : Hid (MsAt w u n) := hn
  have HG : Hid (Glob w) := hg
  clear hg
  have hsame := sameB_self m
  have hbw : ∀ o o' : Obj, Below w.heap.size w ((w.alloc o).alloc o') := fun o o' => ((Below.refl _ _).alloc (Nat.le_refl _) _).alloc (by simp) _
  have hm' := fun o o' => hm.below (Nat.le_refl _) (hbw o o')
  have hg' := fun o o' => HG.out.below (hbw o o')
  obtain ⟨⟨ao, c, bo, d, rfl, a1, a2, _⟩, hp, r⟩ := hm
  obtain ⟨⟨ao', c', bo', d', rfl, b1, b2, _⟩, hp', r'⟩ := hn
  clear a2 b1 b2 hp hp' r r'
  have HA1 : Hid (HeadsAt w ao m.heads) := a1
  clear a1
  go_enter Tryd.func3, Tryd.ntmps3
  go_wp2_with fail
  refine (text_all m _ _ (hm' _ _) (hg' _ _).tab).mono ?_
  rintro e w1 ⟨rfl, bl⟩
  have hT : w1.cell? ⟨w.heap.size, 0, none⟩ = some (.int .i64 m.st) ∧ w1.cell? ⟨w.heap.size, 1, none⟩ = some (.string m.path) ∧ w1.cell? ⟨w.heap.size, 2, none⟩ = some (.slice ao m.heads.length c) ∧ w1.cell? ⟨w.heap.size, 3, none⟩ = some (.slice bo m.body.size d) ∧ w1.cell? ⟨w.heap.size + 1, 0, none⟩ = some (.int .i64 n.st) ∧ w1.cell? ⟨w.heap.size + 1, 1, none⟩ = some (.string n.path) ∧ w1.cell? ⟨w.heap.size + 1, 2, none⟩ = some (.slice ao' n.heads.length c') ∧ w1.cell? ⟨w.heap.size + 1, 3, none⟩ = some (.slice bo' n.body.size d') ∧ Below (w.heap.size + 2) _ w1 ∧ w.heap.size + 2 ≤ w1.heap.size :=
    two_keep ⟨by simp [go_sem], by simp [go_sem], by simp [go_sem], by simp [go_sem], by simp [go_sem], by simp [go_sem], by simp [go_sem], by simp [go_sem], Below.refl _ _, by simp⟩ bl
  have B1 : Hid (Below w.heap.size w w1) := (hbw _ _).trans (bl.mono (by simp; omega))
  obtain ⟨t0, t1, t2, t3, t4, t5, t6, t7, t8, t9⟩ := hT
  clear bl t8 hm' hg' hbw
  have HT : Hid _ := (⟨t0, t1, t2, t3, t4, t5, t6, t7, Below.refl _ _, t9⟩ : w1.cell? ⟨w.heap.size, 0, none⟩ = some (.int .i64 m.st) ∧ w1.cell? ⟨w.heap.size, 1, none⟩ = some (.string m.path) ∧ w1.cell? ⟨w.heap.size, 2, none⟩ = some (.slice ao m.heads.length c) ∧ w1.cell? ⟨w.heap.size, 3, none⟩ = some (.slice bo m.body.size d) ∧ w1.cell? ⟨w.heap.size + 1, 0, none⟩ = some (.int .i64 n.st) ∧ w1.cell? ⟨w.heap.size + 1, 1, none⟩ = some (.string n.path) ∧ w1.cell? ⟨w.heap.size + 1, 2, none⟩ = some (.slice ao' n.heads.length c') ∧ w1.cell? ⟨w.heap.size + 1, 3, none⟩ = some (.slice bo' n.body.size d') ∧ Below (w.heap.size + 2) w1 w1 ∧ w.heap.size + 2 ≤ w1.heap.size)
  have M1 := HM.out.below (Nat.le_refl _) B1.out
  have G1 := HG.out.below B1.out
  go_wp2_with fail
  refine (rtext_all m _ _ M1 G1.tab).mono ?_
  rintro e w2 ⟨rfl, bl⟩
  have hT2 := two_keep HT.out bl
  clear HT t0 t1 t2 t3 t4 t5 t6 t7 t9 M1 G1 bl
  obtain ⟨t0, t1, t2, t3, t4, t5, t6, t7, t8, t9⟩ := hT2
  go_wp2_with fail
  have W2 : Hid (w.heap.size ≤ w.heap.size + 2) := by show _ ≤ _; omega
  have HS0 : Hid (_ ∧ _) := two_keep ⟨t0, t1, t2, t3, t4, t5, t6, t7, t8, t9⟩ ((Below.refl w2.heap.size w2).drew)
  clear t8
  go_region_held3 (fun w' => w'.cell? ⟨w.heap.size, 0, none⟩ = some (.int .i64 m.st) ∧ w'.cell? ⟨w.heap.size, 1, none⟩ = some (.string m.path) ∧ w'.cell? ⟨w.heap.size, 2, none⟩ = some (.slice ao m.heads.length c) ∧ w'.cell? ⟨w.heap.size, 3, none⟩ = some (.slice bo m.body.size d) ∧ w'.cell? ⟨w.heap.size + 1, 0, none⟩ = some (.int .i64 n.st) ∧ w'.cell? ⟨w.heap.size + 1, 1, none⟩ = some (.string n.path) ∧ w'.cell? ⟨w.heap.size + 1, 2, none⟩ = some (.slice ao' n.heads.length c') ∧ w'.cell? ⟨w.heap.size + 1, 3, none⟩ = some (.slice bo' n.body.size d') ∧ Below (w.heap.size + 2) w1 w' ∧ w.heap.size + 2 ≤ w'.heap.size) (first | exact two_keep2 (by assumption) (by assumption) | exact HS0)
    (first
      | (go_at_call 10; refine (wrong_any m _ _ (two_ms HM.out B1.out W2.out (by assumption))).mono ?_; rintro e w' ⟨rfl, hb⟩)
      | (go_at_call 11; refine (rwrong_any m _ _ (two_ms HM.out B1.out W2.out (by assumption))).mono ?_; rintro e w' ⟨rfl, hb⟩)
      | (go_at_call 12; refine (key_bel s _ HS2.out).mono ?_; rintro e w' ⟨rfl, hb⟩)
      | (go_at_call 13; refine (rkey_bel s _ HS2.out).mono ?_; rintro e w' ⟨rfl, hb⟩)
      | (go_at_call 14; refine (path_bel s _ HS2.out).mono ?_; rintro e w' ⟨rfl, hb⟩)
      | (go_at_call 15; refine (rpath_bel s _ HS2.out).mono ?_; rintro e w' ⟨rfl, hb⟩)
      | (go_at_call 17; refine (own_ms m _ _ (two_ms HM.out B1.out W2.out (by assumption))).mono ?_; rintro e w' ⟨vo, rfl, hvo, hb⟩)
      | (go_at_call 16; refine (rsame_any m _ _ _ _ (by first | exact hvo | exact two_ms HM.out B1.out W2.out (by assumption)) (by first | exact two_ms HN.out B1.out W2.out (by assumption) | exact two_ms HM.out B1.out W2.out (by assumption))).mono ?_; rintro e w' ⟨rfl, hb⟩)
      | (go_at_call 18; refine (same_any m n _ _ _ (two_ms HM.out B1.out W2.out (by assumption)) (two_ms HN.out B1.out W2.out (by assumption))).mono ?_; rintro e w' ⟨rfl, hb⟩))
  clear HS0 t0 t1 t2 t3 t4 t5 t6 t7 t9
  obtain ⟨pm, hpm⟩ : ∃ pm, parseM s.data.toList = pm := ⟨_, rfl⟩
  obtain ⟨pe, hpe⟩ : ∃ pe, parseE s.data.toList = pe := ⟨_, rfl⟩
  have hsameP := sameB_self pm
  have hsameA := sameB_self ⟨status, B [], [], s⟩
  have P17 := fun W (hW : Glob W) => parse_any s W HS3.out hW
  have P18 := fun W (hW : Glob W) => rparse_any s W HS.out hW
  rw [hpm, hpe] at P17 P18
  clear hpm hpe
  have HP17 : Hid (∀ W, Glob W → Calls Tryd.prog 19 _ W _) := P17
  have HP18 : Hid (∀ W, Glob W → Calls Tryd.prog 20 _ W _) := P18
  clear P17 P18
  go_wp2_with fail
  refine Calls.mono (HP17.out _ (HG.out.below (two_bel B1.out W2.out (by assumption)))) ?_
  rintro e w5 ⟨v5, rfl, hx, b5⟩
  have hT5 := two_keep2 b5 (by assumption)
  have HX : Hid (MsAt w5 v5 pm) := hx
  obtain ⟨⟨xo, xc, xbo, xd, rfl, _⟩, _, _⟩ := hx
  have HT5 : Hid (_ ∧ _) := hT5
  clear hT5 b5
  go_wp2_with fail
  refine Calls.mono (HP18.out _ (HG.out.below (two_bel B1.out W2.out (two_keep HT5.out (bel_alloc _ _))))) ?_
  rintro e w6 ⟨v6, rfl, hy, b6⟩
  have hT6 := two_keep (two_keep HT5.out (bel_alloc _ _)) b6
  have HX6 : Hid (MsAt w6 _ pm) := (HX.out.below (Nat.le_refl _) (bel_alloc _ _)).below (Nat.le_refl _) b6
  have HY6 : Hid (MsAt w6 v6 pm) := hy
  have kx := fun j => b6.cell (p := ⟨w5.heap.size, j, none⟩) (by simp)
  have hx6 := b6.size
  simp at hx6
  have hx6n : ¬ w5.heap.size = w6.heap.size := by omega
  have hx6l : w5.heap.size < w6.heap.size := by omega
  obtain ⟨⟨yo, yc, ybo, yd, rfl, _⟩, _, _⟩ := hy
  have HT6 : Hid (_ ∧ _) := hT6
  clear hT6 b6 HX HT5
  go_wp2_with fail
  refine (rsame_any pm pm _ _ _ (HX6.out.below (Nat.le_refl _) (bel_alloc _ _)) (HY6.out.below (Nat.le_refl _) (bel_alloc _ _))).mono ?_
  rintro e w7 ⟨rfl, b7⟩
  have hT7 := two_keep (two_keep HT6.out (bel_alloc _ _)) b7
  have HT7 : Hid (_ ∧ _) := hT7
  clear hT7 b7 HX6 HY6 HT6 kx
  rw [hsameP]
  go_wp2_with fail
  refine (answer_any status s _ HS3.out).mono ?_
  rintro e w8 ⟨bo8, d8, rfl, h8, b8⟩
  have hT8 := two_keep HT7.out b8
  have HT8 : Hid (_ ∧ _) := hT8
  have H8 : Hid (MsAt w8 _ _) := h8
  clear hT8 b8 HT7 h8
  go_wp2_with fail
  refine (rsay_any status s _ HS3.out).mono ?_
  rintro e w9 ⟨bo9, d9, rfl, h9, b9⟩
  have hT9 := two_keep HT8.out b9
  have HT9 : Hid (_ ∧ _) := hT9
  have H8' : Hid (MsAt w9 _ _) := H8.out.below (Nat.le_refl _) b9
  have H9 : Hid (MsAt w9 _ _) := h9
  clear hT9 b9 HT8 h9 H8
  go_wp2_with fail
  refine (rsame_any ⟨status, B [], [], s⟩ ⟨status, B [], [], s⟩ _ _ _ H8'.out H9.out).mono ?_
  rintro e w10 ⟨rfl, b10⟩
  have hT10 := two_keep HT9.out b10
  have HT10 : Hid (_ ∧ _) := hT10
  clear b10 HT9 H8' H9
  rw [hsameA]
  obtain ⟨t0, t1, t2, t3, t4, t5, t6, t7, t8, t9⟩ := hT10
  clear t8
  have HD10 : Hid (HeadsAt w10 ao m.heads) := HA1.out.below (Nat.le_refl _) (two_bel B1.out W2.out HT10.out)
  go_wp2_with fail
  refine (get_any m.heads key m.path m.st ao c _ _ HD10.out).mono ?_
  rintro e w11 ⟨rfl, b11⟩
  have hT11 := two_keep HT10.out b11
  have HT11 : Hid (_ ∧ _) := hT11
  have HD11 : Hid (HeadsAt w11 ao m.heads) := HD10.out.below (Nat.le_refl _) b11
  clear b11 HT10 HD10 t0 t1 t2 t3 t4 t5 t6 t7 t9
  obtain ⟨t0, t1, t2, t3, t4, t5, t6, t7, t8, t9⟩ := hT11
  clear t8
  go_wp2_with fail
  refine (rget_any m.heads key m.path m.st ao c _ _ HD11.out).mono ?_
  rintro e w12 ⟨rfl, b12⟩
  have hT12 := two_keep HT11.out b12
  have HT12 : Hid (_ ∧ _) := hT12
  clear b12 HT11 HD11 t0 t1 t2 t3 t4 t5 t6 t7 t9
  obtain ⟨t0, t1, t2, t3, t4, t5, t6, t7, t8, t9⟩ := hT12
  have hsameS := sameB_self (setM m key s)
  have HS0 : Hid (_ ∧ _) := two_keep HT12.out ((Below.refl w12.heap.size w12).drew)
  clear t8
  go_wp2_with fail
  go_region_held3 (fun w' => w'.cell? ⟨w.heap.size, 0, none⟩ = some (.int .i64 m.st) ∧ w'.cell? ⟨w.heap.size, 1, none⟩ = some (.string m.path) ∧ w'.cell? ⟨w.heap.size, 2, none⟩ = some (.slice ao m.heads.length c) ∧ w'.cell? ⟨w.heap.size, 3, none⟩ = some (.slice bo m.body.size d) ∧ w'.cell? ⟨w.heap.size + 1, 0, none⟩ = some (.int .i64 n.st) ∧ w'.cell? ⟨w.heap.size + 1, 1, none⟩ = some (.string n.path) ∧ w'.cell? ⟨w.heap.size + 1, 2, none⟩ = some (.slice ao' n.heads.length c') ∧ w'.cell? ⟨w.heap.size + 1, 3, none⟩ = some (.slice bo' n.body.size d') ∧ Below (w.heap.size + 2) w1 w' ∧ w.heap.size + 2 ≤ w'.heap.size) (first | exact two_keep2 (by assumption) (by assumption) | exact HS0)
    (first
      | (go_at_call 25; refine (set_any m key s _ _ (two_ms HM.out B1.out W2.out (by assumption)) HKS.out HS2.out).mono ?_; rintro e w' ⟨va, rfl, hva, hb⟩)
      | (go_at_call 26; refine (rset_any m key s _ _ (two_ms HM.out B1.out W2.out (by assumption)) HKS.out HS2.out HLS.out).mono ?_; rintro e w' ⟨vb, rfl, hvb, hb⟩; have hva' := MsAt.below hva (Nat.le_refl _) hb)
      | (go_at_call 16; refine (rsame_any (setM m key s) (setM m key s) _ _ _ hva' hvb).mono ?_; rintro e w' ⟨rfl, hb⟩))
  go_wp2
  go_ret
  first | exact ⟨rfl, two_bel B1.out W2.out (by assumption)⟩ | exact ⟨ret_bool (by simp [hsameS]), two_bel B1.out W2.out (by assumption)⟩
end Go.Proofs.YtlkfkhpokkjkpaaDoor
