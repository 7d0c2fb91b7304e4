/- The law SieveKeeps walked. -/
import Derived.Test.YtmndhecbjpjamaaSvF
import Derived.Test.YtmndhecbjpjamaaSvG
namespace Go.Proofs.Ytmndhecbjpjamaa
open Go.RowKit

/-- Where the law stands: a filter and a message in boxes of its own. -/
structure LawAt (w wi : World) (k n : Int) (key text : ByteArray) (m : Ms) (ao bo : Option Addr) (c d : Nat) : Prop where
  bs : BoxAt wi w.heap.size (.int .i64 k) (.int .i64 n) (.string key) (.string text)
  bm : BoxAt wi (w.heap.size + 1) (.int .i64 m.st) (.string m.path) (.slice ao m.heads.length c) (.slice bo m.body.size d)
  ms : MsAt wi (.agg #[.int .i64 m.st, .string m.path, .slice ao m.heads.length c, .slice bo m.body.size d]) m
  bl : Below w.heap.size w wi
theorem LawAt.keep {w wi wj : World} {k n : Int} {key text : ByteArray} {m : Ms} {ao bo : Option Addr} {c d : Nat} (h : LawAt w wi k n key text m ao bo c d) (b : Below wi.heap.size wi wj) : LawAt w wj k n key text m ao bo c d :=
  ⟨h.bs.keep b, h.bm.keep b, h.ms.below (Nat.le_refl _) b, h.bl.trans (b.mono h.bl.size)⟩
theorem lawAt_new (w : World) (k n : Int) (key text : ByteArray) (m : Ms) (ao bo : Option Addr) (c d : Nat) (hm : MsAt w (.agg #[.int .i64 m.st, .string m.path, .slice ao m.heads.length c, .slice bo m.body.size d]) m) :
    LawAt w ((w.alloc (.cells #[.int .i64 k, .int .i64 n, .string key, .string text] 23)).alloc (.cells #[.int .i64 m.st, .string m.path, .slice ao m.heads.length c, .slice bo m.body.size d] 27)) k n key text m ao bo c d :=
  ⟨(boxAt_new w _ _ _ _ 23).keep ((Below.refl _ _).alloc (Nat.le_refl _) _), by have := boxAt_new (w.alloc (.cells #[.int .i64 k, .int .i64 n, .string key, .string text] 23)) (.int .i64 m.st) (.string m.path) (.slice ao m.heads.length c) (.slice bo m.body.size d) 27; simpa using this, hm.below (Nat.le_refl _) (below2 w _ _), below2 w _ _⟩

set_option maxHeartbeats 2000000 in
theorem keeps_any (k n : Int) (key text : ByteArray) (m : Ms) (v : Value) (g : Int) (w : World) (hm : MsAt w v m) (hk : key.size ≤ maxLen) (ht : text.size ≤ maxLen) :
    Calls Try.prog 4 #[.agg #[.int .i64 k, .int .i64 n, .string key, .string text], v, .int .i64 g] w fun e w' => e = .returned (.bool true) ∧ Below w.heap.size w w' := by
  have HK : Hid (key.size ≤ maxLen ∧ text.size ≤ maxLen) := ⟨hk, ht⟩
  obtain ⟨⟨ao, c, bo, d, hv, _⟩, _, _⟩ := id hm
  subst hv
  have L0 : Hid (LawAt w _ k n key text m ao bo c d) := lawAt_new w k n key text m ao bo c d hm
  clear hk ht hm
  go_enter Try.func4, Try.ntmps4
  go_wp2_with fail
  refine (alive_any _).mono ?_
  rintro e w1 ⟨rfl, b1⟩
  have L1 : Hid (LawAt w w1 k n key text m ao bo c d) := L0.out.keep b1
  clear L0 b1
  obtain ⟨x0, x1, x2, x3, xl⟩ := L1.out.bs
  go_wp2_with fail
  refine (swrong_any k n key text _ HK.out.1 HK.out.2).mono ?_
  rintro e w2 ⟨rfl, b2⟩
  have L2 : Hid (LawAt w w2 k n key text m ao bo c d) := L1.out.keep b2
  clear L1 b2 x0 x1 x2 x3 xl
  by_cases hE : sieveE k n key text = 0
  · have HE : Hid (sieveE k n key text = 0) := hE
    rw [hE]
    clear hE
    obtain ⟨y0, y1, y2, y3, yl⟩ := L2.out.bm
    go_wp2_with fail
    refine (rwrong_any m _ _ L2.out.ms).mono ?_
    rintro e w3 ⟨rfl, b3⟩
    have L3 : Hid (LawAt w w3 k n key text m ao bo c d) := L2.out.keep b3
    clear L2 b3 y0 y1 y2 y3 yl
    by_cases hW : wrongE m = 0
    · have HW : Hid (wrongE m = 0) := hW
      rw [hW]
      clear hW
      obtain ⟨y0, y1, y2, y3, yl⟩ := L3.out.bm
      obtain ⟨x0, x1, x2, x3, xl⟩ := L3.out.bs
      by_cases h0 : m.st = 0
      · have q0 : (m.st != 0) = false := by simp [h0]
        have H0 : Hid (m.st = 0) := h0
        clear h0
        by_cases g0 : g < 0
        · go_wp2
          go_ret
          exact ⟨rfl, L3.out.bl⟩
        · have g0' : decide (g < 0) = false := by simpa using g0
          by_cases g1 : 100 < g
          · go_wp2
            go_ret
            exact ⟨rfl, L3.out.bl⟩
          · have g1' : decide (100 < g) = false := by simpa using g1
            obtain ⟨kw, kg1, kg2, kc⟩ := keeps k n key text m g HE.out HW.out H0.out
            have KW : Hid (wrongE (askM k n key text m g) = 0) := kw
            have KC : Hid (askD k n key text m g = 1 ∧ 400 ≤ (askM k n key text m g).st ∧ askG k n g = g ∨ askD k n key text m g = 0 ∧ (askM k n key text m g).st = 0 ∧ (askM k n key text m g).path = m.path ∧ (askM k n key text m g).body = m.body) := kc
            have KG : Hid (g ≤ askG k n g ∧ askG k n g ≤ g + 1) := ⟨kg1, kg2⟩
            clear kw kc kg1 kg2
            go_wp2_with fail
            refine (ask_any k n key text m _ g _ L3.out.ms HK.out.1 HK.out.2 (by omega) (by omega)).mono ?_
            rintro e w4 ⟨v', rfl, nw, b4⟩
            generalize askM k n key text m g = M at nw KW KC
            generalize askD k n key text m g = D at KC ⊢
            generalize askG k n g = G at KC KG ⊢
            obtain ⟨ao1, c1, bo1, d1, rfl⟩ := nw.shape
            have L4 : Hid (LawAt w w4 k n key text m ao bo c d) := L3.out.keep b4
            have bx := boxAt_new w4 (.int .i64 M.st) (.string M.path) (.slice ao1 M.heads.length c1) (.slice bo1 M.body.size d1) 27
            have L5 : Hid (LawAt w (w4.alloc (.cells #[.int .i64 M.st, .string M.path, .slice ao1 M.heads.length c1, .slice bo1 M.body.size d1] 27)) k n key text m ao bo c d) := L4.out.keep ((Below.refl _ _).alloc (Nat.le_refl _) _)
            have BX : Hid (BoxAt (w4.alloc (.cells #[.int .i64 M.st, .string M.path, .slice ao1 M.heads.length c1, .slice bo1 M.body.size d1] 27)) w4.heap.size (.int .i64 M.st) (.string M.path) (.slice ao1 M.heads.length c1) (.slice bo1 M.body.size d1)) := bx
            have M5 : Hid (MsAt (w4.alloc (.cells #[.int .i64 M.st, .string M.path, .slice ao1 M.heads.length c1, .slice bo1 M.body.size d1] 27)) (.agg #[.int .i64 M.st, .string M.path, .slice ao1 M.heads.length c1, .slice bo1 M.body.size d1]) M) := nw.lies.below (Nat.le_refl _) ((Below.refl _ _).alloc (Nat.le_refl _) _)
            clear nw b4 L3 L4 bx y0 y1 y2 y3 yl x0 x1 x2 x3 xl
            go_wp2_with fail
            refine (rwrong_any M _ _ M5.out).mono ?_
            rintro e w6 ⟨rfl, b6⟩
            rw [KW.out]
            have L6 : Hid (LawAt w w6 k n key text m ao bo c d) := L5.out.keep b6
            have BX6 : Hid (BoxAt w6 w4.heap.size (.int .i64 M.st) (.string M.path) (.slice ao1 M.heads.length c1) (.slice bo1 M.body.size d1)) := BX.out.keep b6
            have M6 : Hid (MsAt w6 (.agg #[.int .i64 M.st, .string M.path, .slice ao1 M.heads.length c1, .slice bo1 M.body.size d1]) M) := M5.out.below (Nat.le_refl _) b6
            clear b6 L5 BX M5 KW
            obtain ⟨y0, y1, y2, y3, yl⟩ := L6.out.bm
            obtain ⟨z0, z1, z2, z3, zl⟩ := BX6.out
            obtain ⟨kg1, kg2⟩ := KG.out
            have q1 : decide (G < g) = false := by simp; omega
            have q2 : decide (g + 1 < G) = false := by simp; omega
            rcases KC.out with ⟨hD, hst, hG⟩ | ⟨hD, hst, hpa, hbd⟩
            · subst hD
              rw [hG]
              clear KC KG kg1 kg2 q1 q2 hG
              go_wp2
              go_ret
              exact ⟨rfl, L6.out.bl⟩
            · subst hD
              have cva := conv_body L6.out.ms.parts.2 d
              have cvb := conv_body M6.out.parts.2 d1
              have p1 : (M.path.toList == m.path.toList) = true := by rw [hpa]; simp
              have p2 : (M.body.toList == m.body.toList) = true := by rw [hbd]; simp
              have p3 : (M.st == 0) = true := by simp [hst]
              clear KC KG kg1 kg2 hpa hbd hst
              go_wp2
              go_ret
              exact ⟨rfl, L6.out.bl⟩
      · have q0 : (m.st != 0) = true := by simp [h0]
        go_wp2
        go_ret
        exact ⟨rfl, L3.out.bl⟩
    · have q0 : (wrongE m != 0) = true := by simp [hW]
      clear hW
      go_wp2
      go_ret
      exact ⟨rfl, L3.out.bl⟩
  · have q0 : (sieveE k n key text != 0) = true := by simp [hE]
    clear hE
    go_wp2
    go_ret
    exact ⟨rfl, L2.out.bl⟩
end Go.Proofs.Ytmndhecbjpjamaa
