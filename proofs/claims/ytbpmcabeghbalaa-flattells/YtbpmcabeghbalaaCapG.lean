/- The document's own answer: what is wrong with a conf. -/
import Derived.Test.YtbpmcabeghbalaaSvI
import Derived.Test.YtbpmcabeghbalaaCapD
namespace Go.Proofs.Ytbpmcabeghbalaa
open Go.RowKit

def prL (p : Int × Int) : List Value := [.int .i64 p.1, .int .i64 p.2]
def nums (c : Cf) : List (Int × Int) := [(c.fl, 0), (c.co, 1), (c.wa, 0), (c.ti, 0)]
def badP (p : Int × Int) : Bool := decide (p.1 < p.2) || decide (4 < p.1)
theorem limits_nums (c : Cf) : limitsB c = (nums c).all (fun p => !badP p) := by
  unfold limitsB nums badP countB
  simp only [List.all_cons, List.all_nil]
  rw [Bool.eq_iff_iff]
  simp
  omega
theorem limits_false (c : Cf) (k : Nat) (h : k < (nums c).length) (hb : badP (nums c)[k] = true) : limitsB c = false := by
  rw [limits_nums, ← Bool.not_eq_true, List.all_eq_true]
  intro h'
  have := h' _ (List.getElem_mem h)
  rw [hb] at this
  simp at this
theorem limits_true (c : Cf) (h : ∀ i (hi : i < (nums c).length), badP (nums c)[i] = false) : limitsB c = true := by
  rw [limits_nums, List.all_eq_true]
  intro x hx
  obtain ⟨i, hi, rfl⟩ := List.mem_iff_getElem.1 hx
  rw [h i hi]
  rfl

theorem nums_at (w : World) (x : Array Value) (c : Cf) : RowsAt prL 2 ((w.alloc (.cells x 26)).alloc (.cells #[.int .i64 c.fl, .int .i64 0, .int .i64 c.co, .int .i64 1, .int .i64 c.wa, .int .i64 0, .int .i64 c.ti, .int .i64 0] 43)) (some ⟨w.heap.size + 1, 0, none⟩) (nums c) where
  lies i hi := by
    refine ⟨w.heap.size + 1, 0, rfl, by simp, fun j v hj => ?_⟩
    have hi' : i = 0 ∨ i = 1 ∨ i = 2 ∨ i = 3 := by have : i < 4 := hi; omega
    have hj2 : j < 2 := (List.getElem?_eq_some_iff.1 hj).1
    have hj' : j = 0 ∨ j = 1 := by omega
    rcases hi' with rfl | rfl | rfl | rfl <;> rcases hj' with rfl | rfl <;> simp [prL, nums] at hj <;> subst hj <;> simp [go_sem]
  small := by show 4 ≤ maxLen; decide
theorem upE_bad1 {u : Up} (h : decide (u.st < 100) = true) : upE u = 3 := by unfold upE; rw [h]; rfl
theorem upE_bad2 {u : Up} (h : decide (599 < u.st) = true) : upE u = 3 := by unfold upE; rw [h]; simp
theorem upE_bad3 {u : Up} (h : decide (u.fails < 0) = true) : upE u = 3 := by
  have : countB u.fails = false := by unfold countB; simp at h ⊢; omega
  unfold upE; rw [this]; simp
theorem upE_bad4 {u : Up} (h : decide (4 < u.fails) = true) : upE u = 3 := by
  have : countB u.fails = false := by unfold countB; simp at h ⊢; omega
  unfold upE; rw [this]; simp
theorem upE_bad5 {u : Up} (h : decide ((40 : Int) < (u.text.size : Int)) = true) : upE u = 3 := by unfold upE; rw [h]; simp
theorem upE_bad6 {u : Up} (h : decide ((24 : Int) < (u.path.size : Int)) = true) : upE u = 3 := by unfold upE; rw [h]; simp
theorem upE_good {u : Up} (h1 : decide (u.st < 100) = false) (h2 : decide (599 < u.st) = false) (h3 : decide (u.fails < 0) = false) (h4 : decide (4 < u.fails) = false) (h5 : decide ((40 : Int) < (u.text.size : Int)) = false) (h6 : decide ((24 : Int) < (u.path.size : Int)) = false) : upE u = 0 := by
  have : countB u.fails = true := by unfold countB; simp at h3 h4 ⊢; omega
  unfold upE; rw [h1, h2, this, h5, h6]; rfl

theorem bdE_bad1 {b : Bd} (h : decide (b.call < 1) = true) : bdE b = 1 := by unfold bdE; rw [h]; rfl
theorem bdE_bad2 {b : Bd} (h : decide (4 < b.call) = true) : bdE b = 1 := by unfold bdE; rw [h]; simp
theorem bdE_bad3 {b : Bd} (h : decide (b.act < 0) = true) : bdE b = 1 := by unfold bdE; rw [h]; simp
theorem bdE_bad4 {b : Bd} (h : decide (6 < b.act) = true) : bdE b = 1 := by unfold bdE; rw [h]; simp
theorem bdE_bad5 {b : Bd} (h1 : decide (b.call < 1) = false) (h2 : decide (4 < b.call) = false) (h3 : decide (b.act < 0) = false) (h4 : decide (6 < b.act) = false) (h5 : decide ((20 : Int) < (b.text.size : Int)) = true) : bdE b = 4 := by unfold bdE; rw [h1, h2, h3, h4, h5]; rfl
theorem bdE_good {b : Bd} (h1 : decide (b.call < 1) = false) (h2 : decide (4 < b.call) = false) (h3 : decide (b.act < 0) = false) (h4 : decide (6 < b.act) = false) (h5 : decide ((20 : Int) < (b.text.size : Int)) = false) : bdE b = 0 := by unfold bdE; rw [h1, h2, h3, h4, h5]; rfl

/-- What is kept from loop to loop: the box of the conf, and all that was there. -/
structure RInv (w wr : World) (c : Cf) (ao bo po : Option Addr) (ac bc pc : Nat) : Prop where
  bl : Below w.heap.size w wr
  bx : CBox wr w.heap.size c ao bo po ac bc pc
theorem RInv.step {w wr w' : World} {c : Cf} {ao bo po : Option Addr} {ac bc pc : Nat} (h : RInv w wr c ao bo po ac bc pc) (b : Below wr.heap.size wr w') : RInv w w' c ao bo po ac bc pc :=
  ⟨h.bl.trans (b.mono h.bl.size), h.bx.keep b h.bx.lt⟩
theorem RInv.alloc {w wr : World} {c : Cf} {ao bo po : Option Addr} {ac bc pc : Nat} (h : RInv w wr c ao bo po ac bc pc) (o : Obj) : RInv w (wr.alloc o) c ao bo po ac bc pc :=
  h.step ((Below.refl _ _).alloc (Nat.le_refl _) o)

set_option maxRecDepth 100000 in
set_option maxHeartbeats 4000000 in
theorem rwrongC_any (c : Cf) (ao bo po : Option Addr) (ac bc pc : Nat) (w : World) (hl : CfLies w c ao bo po) :
    Calls Try.prog 4 #[.agg #[.slice ao c.svs.length ac, .slice bo c.ups.length bc, .slice po c.bds.length pc, .int .i64 c.fl, .int .i64 c.co, .int .i64 c.wa, .int .i64 c.ti]] w fun e w' => e = .returned (.tuple #[.int .i64 (wrongC c).1, .int .i64 (wrongC c).2]) ∧ Below w.heap.size w w' := by
  have hbw : ∀ o : Obj, Below w.heap.size w (w.alloc o) := fun o => (Below.refl _ _).alloc (Nat.le_refl _) o
  have hs1 := hl.s.small
  have hs2 := hl.u.small
  have hs3 := hl.b.small
  unfold maxLen at hs1 hs2 hs3
  have HL : Hid (CfLies w c ao bo po) := hl
  have RI : Hid (RInv w _ c ao bo po ac bc pc) := ⟨hbw _, cbox_new w c ao bo po ac bc pc⟩
  clear hl
  have HW : Hid (wrongC c = if manyB c then (5, -1) else if limitsB c then
    (if (firstF svE c.svs 0).1 = 0 then (if (firstF upE c.ups 0).1 = 0 then firstF bdE c.bds 0 else firstF upE c.ups 0) else firstF svE c.svs 0)
    else (3, -1)) := rfl
  generalize wrongC c = R at HW
  cases m1 : decide ((6 : Int) < (c.svs.length : Int)) with
  | true =>
    have e : R = (5, -1) := by rw [HW.out]; unfold manyB; rw [m1]; rfl
    clear HW
    subst e
    go_enter Try.func4, Try.ntmps4
    go_wp2
    exact bodyPost_ret (v := .tuple #[.int .i64 5, .int .i64 (-1)]) (by simp [results, Try.results4, go_sem]) rfl ⟨rfl, hbw _⟩
  | false =>
    cases m2 : decide ((4 : Int) < (c.ups.length : Int)) with
    | true =>
      have e : R = (5, -1) := by rw [HW.out]; unfold manyB; rw [m1, m2]; rfl
      clear HW
      subst e
      go_enter Try.func4, Try.ntmps4
      go_wp2
      exact bodyPost_ret (v := .tuple #[.int .i64 5, .int .i64 (-1)]) (by simp [results, Try.results4, go_sem]) rfl ⟨rfl, hbw _⟩
    | false =>
      cases m3 : decide ((8 : Int) < (c.bds.length : Int)) with
      | true =>
        have e : R = (5, -1) := by rw [HW.out]; unfold manyB; rw [m1, m2, m3]; rfl
        clear HW
        subst e
        go_enter Try.func4, Try.ntmps4
        go_wp2
        exact bodyPost_ret (v := .tuple #[.int .i64 5, .int .i64 (-1)]) (by simp [results, Try.results4, go_sem]) rfl ⟨rfl, hbw _⟩
      | false =>
        have HM : Hid (manyB c = false) := by show manyB c = false; unfold manyB; rw [m1, m2, m3]; rfl
        rw [HM.out] at HW
        simp only [Bool.false_eq_true, if_false] at HW
        go_enter Try.func4, Try.ntmps4
        have RN : Hid (RowsAt prL 2 _ _ (nums c)) := nums_at w #[.slice ao c.svs.length ac, .slice bo c.ups.length bc, .slice po c.bds.length pc, .int .i64 c.fl, .int .i64 c.co, .int .i64 c.wa, .int .i64 c.ti] c
        have RJ : Hid (RInv w _ c ao bo po ac bc pc) := RI.out.alloc (.cells #[.int .i64 c.fl, .int .i64 0, .int .i64 c.co, .int .i64 1, .int .i64 c.wa, .int .i64 0, .int .i64 c.ti, .int .i64 0] 43)
        go_wp2
        go_loopw [43] (fun i wr => ∃ k : Nat, k ≤ 4 ∧ i = .int .i64 k ∧ Hid (RowsAt prL 2 wr (some ⟨w.heap.size + 1, 0, none⟩) (nums c)) ∧ Hid (RInv w wr c ao bo po ac bc pc) ∧ Hid (∀ i (hi : i < (nums c).length), i < k → badP (nums c)[i] = false)) (fun i _ => 4 - (intOf i).toNat)
        case atStart => exact ⟨0, by omega, rfl, RN, RJ, fun i hi h => absurd h (Nat.not_lt_zero i)⟩
        case round =>
          clear RJ RN RI
          obtain ⟨k, hk, rfl, RN, RJ, HF⟩ := hrel
          by_cases hlt : k < 4
          · have hlt2 : k < (nums c).length := hlt
            obtain ⟨b, off, hbo, hbl, hc⟩ := RN.out.lies k hlt2
            obtain ⟨rfl, rfl⟩ : w.heap.size + 1 = b ∧ 0 = off := by simpa using hbo
            have c0 : wr.cell? ⟨w.heap.size + 1, 0 + k * 2, none⟩ = some (.int .i64 (nums c)[k].1) := hc 0 _ rfl
            have c1 : wr.cell? ⟨w.heap.size + 1, 0 + k * 2 + 1, none⟩ = some (.int .i64 (nums c)[k].2) := hc 1 _ rfl
            have hlt' : (k : Int) < 4 := by omega
            have c0' : wr.cell? ⟨w.heap.size + 1, k * 2, none⟩ = some (.int .i64 (nums c)[k].1) := by rw [Nat.zero_add] at c0; exact c0
            have c1' : wr.cell? ⟨w.heap.size + 1, k * 2 + 1, none⟩ = some (.int .i64 (nums c)[k].2) := by rw [Nat.zero_add] at c1; exact c1
            clear hc hbo
            have HN : Hid (∀ o, RowsAt prL 2 (wr.alloc o) (some ⟨w.heap.size + 1, 0, none⟩) (nums c)) := fun o => RN.out.below (Nat.le_refl _) ((Below.refl _ _).alloc (Nat.le_refl _) o)
            have HB1 : Hid (badP (nums c)[k] = (decide ((nums c)[k].1 < (nums c)[k].2) || decide (4 < (nums c)[k].1))) := rfl
            have HX : Hid (badP (nums c)[k] = true → R = (3, -1)) := fun h => by
              rw [HW.out, limits_false c k hlt2 h]
              simp
            have HY : Hid (badP (nums c)[k] = false → ∀ i (hi : i < (nums c).length), i < k + 1 → badP (nums c)[i] = false) := fun h i hi hik => by
              by_cases e : i = k
              · subst e; exact h
              · exact HF.out i hi (by omega)
            clear HF
            generalize (nums c)[k] = q at c0 c1 c0' c1' HB1 HX HY
            obtain ⟨q1, q2⟩ := q
            cases d1 : decide (q1 < q2) with
            | true =>
              have e : R = (3, -1) := HX.out (by rw [HB1.out]; show (decide (q1 < q2) || _) = true; rw [d1]; rfl)
              clear HX HY HB1 HW
              subst e
              go_wp2
              exact bodyPost_ret (v := .tuple #[.int .i64 3, .int .i64 (-1)]) (by simp [results, Try.results4, go_sem]) rfl ⟨rfl, RJ.out.bl.alloc RJ.out.bl.size _⟩
            | false =>
              cases d2 : decide (4 < q1) with
              | true =>
                have e : R = (3, -1) := HX.out (by rw [HB1.out]; show (_ || decide (4 < q1)) = true; rw [d2]; simp)
                clear HX HY HB1 HW
                subst e
                go_wp2
                exact bodyPost_ret (v := .tuple #[.int .i64 3, .int .i64 (-1)]) (by simp [results, Try.results4, go_sem]) rfl ⟨rfl, RJ.out.bl.alloc RJ.out.bl.size _⟩
              | false =>
                have HZ : Hid (∀ i (hi : i < (nums c).length), i < k + 1 → badP (nums c)[i] = false) := HY.out (by rw [HB1.out]; show (decide (q1 < q2) || decide (4 < q1)) = false; rw [d1, d2]; rfl)
                clear HX HY HB1
                go_wp2
                go_roundw
                case rel => exact ⟨k + 1, by omega, by go_num, HN.out _, RJ.out.alloc _, HZ⟩
                case measure => simp [intOf]; omega
          · have HT : Hid (limitsB c = true) := limits_true c (fun i hi => HF.out i hi (by have : i < 4 := hi; omega))
            rw [HT.out] at HW
            simp only [if_true] at HW
            have k4 : decide ((k : Int) < 4) = false := by simp; omega
            obtain ⟨x0, x1, x2, x3, x4, x5, x6, xl⟩ := RJ.out.bx
            clear HF HT hk hlt RN
            go_wp2
            clear x0 x1 x2 x3 x4 x5 x6 xl
            go_loopw [61] (fun i wr => ∃ k : Nat, k ≤ c.svs.length ∧ i = .int .i64 k ∧ Hid (RInv w wr c ao bo po ac bc pc) ∧ Hid (firstF svE c.svs 0 = firstF svE (c.svs.drop k) k)) (fun i _ => c.svs.length - (intOf i).toNat)
            case atStart => exact ⟨0, by omega, rfl, RJ, rfl⟩
            case round =>
              clear RJ
              obtain ⟨k, hk, rfl, RJ, HF⟩ := hrel
              by_cases hlt : k < c.svs.length
              · have hb := HL.out.s.below (Nat.le_refl _) RJ.out.bl
                obtain ⟨b, off, rfl, hbl, hc⟩ := hb.lies k hlt
                have c0 : wr.cell? ⟨b, off + k * 4, none⟩ = some (.int .i64 c.svs[k].k) := hc 0 _ rfl
                have c1 : wr.cell? ⟨b, off + k * 4 + 1, none⟩ = some (.int .i64 c.svs[k].n) := hc 1 _ rfl
                have c2 : wr.cell? ⟨b, off + k * 4 + 2, none⟩ = some (.string c.svs[k].key) := hc 2 _ rfl
                have c3 : wr.cell? ⟨b, off + k * 4 + 3, none⟩ = some (.string c.svs[k].text) := hc 3 _ rfl
                have hlt' : (k : Int) < (c.svs.length : Int) := by omega
                have OK : Hid (c.svs[k].key.size ≤ maxLen ∧ c.svs[k].text.size ≤ maxLen) := HL.out.sok _ (List.getElem_mem hlt)
                have SZ := RJ.out.bl.size
                clear hb hc
                by_cases h0 : svE c.svs[k] = 0
                · have HC : Hid (∀ W, Calls Try.prog 8 #[.agg #[.int .i64 c.svs[k].k, .int .i64 c.svs[k].n, .string c.svs[k].key, .string c.svs[k].text]] W fun e w' => e = .returned (.int .i64 0) ∧ Below W.heap.size W w') := by
                    intro W
                    rw [← h0]
                    exact rws_any _ _ _ _ W OK.out.1 OK.out.2
                  have HG : Hid (firstF svE c.svs 0 = firstF svE (c.svs.drop (k + 1)) (k + 1)) := HF.out.trans (firstF_go svE c.svs k hlt h0)
                  clear h0
                  go_wp2_with fail
                  refine (HC.out _).mono ?_
                  rintro e w' ⟨rfl, hb'⟩
                  go_wp2
                  go_roundw
                  case rel => exact ⟨k + 1, by omega, by go_num, (RJ.out.alloc _).step hb', HG⟩
                  case measure => simp [intOf]; omega
                · have HC : Hid (∀ W, Calls Try.prog 8 #[.agg #[.int .i64 c.svs[k].k, .int .i64 c.svs[k].n, .string c.svs[k].key, .string c.svs[k].text]] W fun e w' => e = .returned (.int .i64 (svE c.svs[k])) ∧ Below W.heap.size W w') := fun W => rws_any _ _ _ _ W OK.out.1 OK.out.2
                  have HG : Hid (firstF svE c.svs 0 = (svE c.svs[k], (k : Int))) := HF.out.trans (firstF_stop svE c.svs k hlt h0)
                  have h0' : (svE c.svs[k] == 0) = false := by simpa using h0
                  rw [HG.out] at HW
                  rw [if_neg h0] at HW
                  generalize svE c.svs[k] = E at HC h0' HG HW
                  clear h0
                  go_wp2_with fail
                  refine (HC.out _).mono ?_
                  rintro e w' ⟨rfl, hb'⟩
                  go_wp2
                  exact bodyPost_ret (v := .tuple #[.int .i64 E, .int .i64 (k : Int)]) (by simp [results, Try.results4, go_sem]) rfl ⟨by rw [HW.out], ((RJ.out.alloc _).step hb').bl⟩
              · have HG : Hid (firstF svE c.svs 0 = (0, -1)) := HF.out.trans (firstF_end svE c.svs k (by omega))
                rw [HG.out] at HW
                simp only [if_true] at HW
                obtain ⟨x0, x1, x2, x3, x4, x5, x6, xl⟩ := RJ.out.bx
                clear HF HG
                go_wp2
                clear x0 x1 x2 x3 x4 x5 x6 xl
                go_loopw [76] (fun i wr => ∃ k : Nat, k ≤ c.ups.length ∧ i = .int .i64 k ∧ Hid (RInv w wr c ao bo po ac bc pc) ∧ Hid (firstF upE c.ups 0 = firstF upE (c.ups.drop k) k)) (fun i _ => c.ups.length - (intOf i).toNat)
                case atStart => exact ⟨0, by omega, rfl, RJ, rfl⟩
                case round =>
                  clear RJ
                  obtain ⟨k, hk, rfl, RJ, HF⟩ := hrel
                  by_cases hlt : k < c.ups.length
                  · have hb := HL.out.u.below (Nat.le_refl _) RJ.out.bl
                    obtain ⟨b, off, rfl, hbl, hc⟩ := hb.lies k hlt
                    have c0 : wr.cell? ⟨b, off + k * 4, none⟩ = some (.string c.ups[k].path) := hc 0 _ rfl
                    have c1 : wr.cell? ⟨b, off + k * 4 + 1, none⟩ = some (.int .i64 c.ups[k].st) := hc 1 _ rfl
                    have c2 : wr.cell? ⟨b, off + k * 4 + 2, none⟩ = some (.string c.ups[k].text) := hc 2 _ rfl
                    have c3 : wr.cell? ⟨b, off + k * 4 + 3, none⟩ = some (.int .i64 c.ups[k].fails) := hc 3 _ rfl
                    have hlt' : (k : Int) < (c.ups.length : Int) := by omega
                    have OK := HL.out.uok _ (List.getElem_mem hlt)
                    unfold maxLen at OK
                    obtain ⟨OK1, OK2⟩ := OK
                    clear hb hc
                    cases d1 : decide (c.ups[k].st < 100) with
                    | true =>
                      have HG : Hid (firstF upE c.ups 0 = (3, (k : Int))) := by
                        have h := firstF_stop upE c.ups k hlt (by rw [upE_bad1 d1]; decide)
                        rw [upE_bad1 d1] at h
                        exact HF.out.trans h
                      go_wp2
                      exact bodyPost_ret (v := .tuple #[.int .i64 3, .int .i64 (k : Int)]) (by simp [results, Try.results4, go_sem]) rfl ⟨by rw [HW.out, HG.out]; rfl, RJ.out.bl.alloc RJ.out.bl.size _⟩
                    | false =>
                      cases d2 : decide (599 < c.ups[k].st) with
                      | true =>
                        have HG : Hid (firstF upE c.ups 0 = (3, (k : Int))) := by
                          have h := firstF_stop upE c.ups k hlt (by rw [upE_bad2 d2]; decide)
                          rw [upE_bad2 d2] at h
                          exact HF.out.trans h
                        go_wp2
                        exact bodyPost_ret (v := .tuple #[.int .i64 3, .int .i64 (k : Int)]) (by simp [results, Try.results4, go_sem]) rfl ⟨by rw [HW.out, HG.out]; rfl, RJ.out.bl.alloc RJ.out.bl.size _⟩
                      | false =>
                        cases d3 : decide (c.ups[k].fails < 0) with
                        | true =>
                          have HG : Hid (firstF upE c.ups 0 = (3, (k : Int))) := by
                            have h := firstF_stop upE c.ups k hlt (by rw [upE_bad3 d3]; decide)
                            rw [upE_bad3 d3] at h
                            exact HF.out.trans h
                          go_wp2
                          exact bodyPost_ret (v := .tuple #[.int .i64 3, .int .i64 (k : Int)]) (by simp [results, Try.results4, go_sem]) rfl ⟨by rw [HW.out, HG.out]; rfl, RJ.out.bl.alloc RJ.out.bl.size _⟩
                        | false =>
                          cases d4 : decide (4 < c.ups[k].fails) with
                          | true =>
                            have HG : Hid (firstF upE c.ups 0 = (3, (k : Int))) := by
                              have h := firstF_stop upE c.ups k hlt (by rw [upE_bad4 d4]; decide)
                              rw [upE_bad4 d4] at h
                              exact HF.out.trans h
                            go_wp2
                            exact bodyPost_ret (v := .tuple #[.int .i64 3, .int .i64 (k : Int)]) (by simp [results, Try.results4, go_sem]) rfl ⟨by rw [HW.out, HG.out]; rfl, RJ.out.bl.alloc RJ.out.bl.size _⟩
                          | false =>
                            cases d5 : decide ((40 : Int) < (c.ups[k].text.size : Int)) with
                            | true =>
                              have HG : Hid (firstF upE c.ups 0 = (3, (k : Int))) := by
                                have h := firstF_stop upE c.ups k hlt (by rw [upE_bad5 d5]; decide)
                                rw [upE_bad5 d5] at h
                                exact HF.out.trans h
                              go_wp2
                              exact bodyPost_ret (v := .tuple #[.int .i64 3, .int .i64 (k : Int)]) (by simp [results, Try.results4, go_sem]) rfl ⟨by rw [HW.out, HG.out]; rfl, RJ.out.bl.alloc RJ.out.bl.size _⟩
                            | false =>
                              cases d6 : decide ((24 : Int) < (c.ups[k].path.size : Int)) with
                              | true =>
                                have HG : Hid (firstF upE c.ups 0 = (3, (k : Int))) := by
                                  have h := firstF_stop upE c.ups k hlt (by rw [upE_bad6 d6]; decide)
                                  rw [upE_bad6 d6] at h
                                  exact HF.out.trans h
                                go_wp2
                                exact bodyPost_ret (v := .tuple #[.int .i64 3, .int .i64 (k : Int)]) (by simp [results, Try.results4, go_sem]) rfl ⟨by rw [HW.out, HG.out]; rfl, RJ.out.bl.alloc RJ.out.bl.size _⟩
                              | false =>
                                have HG : Hid (firstF upE c.ups 0 = firstF upE (c.ups.drop (k + 1)) (k + 1)) := HF.out.trans (firstF_go upE c.ups k hlt (upE_good d1 d2 d3 d4 d5 d6))
                                go_wp2
                                go_roundw
                                case rel => exact ⟨k + 1, by omega, by go_num, RJ.out.alloc _, HG⟩
                                case measure => simp [intOf]; omega
                  · have HG : Hid (firstF upE c.ups 0 = (0, -1)) := HF.out.trans (firstF_end upE c.ups k (by omega))
                    rw [HG.out] at HW
                    simp only [if_true] at HW
                    obtain ⟨x0, x1, x2, x3, x4, x5, x6, xl⟩ := RJ.out.bx
                    clear HF HG
                    go_wp2
                    clear x0 x1 x2 x3 x4 x5 x6 xl
                    go_loopw [116] (fun i wr => ∃ k : Nat, k ≤ c.bds.length ∧ i = .int .i64 k ∧ Hid (RInv w wr c ao bo po ac bc pc) ∧ Hid (firstF bdE c.bds 0 = firstF bdE (c.bds.drop k) k)) (fun i _ => c.bds.length - (intOf i).toNat)
                    case atStart => exact ⟨0, by omega, rfl, RJ, rfl⟩
                    case round =>
                      clear RJ
                      obtain ⟨k, hk, rfl, RJ, HF⟩ := hrel
                      by_cases hlt : k < c.bds.length
                      · have hb := HL.out.b.below (Nat.le_refl _) RJ.out.bl
                        obtain ⟨b, off, rfl, hbl, hc⟩ := hb.lies k hlt
                        have c0 : wr.cell? ⟨b, off + k * 5, none⟩ = some (.int .i64 c.bds[k].id) := hc 0 _ rfl
                        have c1 : wr.cell? ⟨b, off + k * 5 + 1, none⟩ = some (.int .i64 c.bds[k].fi) := hc 1 _ rfl
                        have c2 : wr.cell? ⟨b, off + k * 5 + 2, none⟩ = some (.int .i64 c.bds[k].call) := hc 2 _ rfl
                        have c3 : wr.cell? ⟨b, off + k * 5 + 3, none⟩ = some (.int .i64 c.bds[k].act) := hc 3 _ rfl
                        have c4 : wr.cell? ⟨b, off + k * 5 + 4, none⟩ = some (.string c.bds[k].text) := hc 4 _ rfl
                        have hlt' : (k : Int) < (c.bds.length : Int) := by omega
                        have OK := HL.out.bok _ (List.getElem_mem hlt)
                        unfold maxLen at OK
                        clear hb hc
                        cases d1 : decide (c.bds[k].call < 1) with
                        | true =>
                          have HG : Hid (firstF bdE c.bds 0 = (1, (k : Int))) := by
                            have h := firstF_stop bdE c.bds k hlt (by rw [bdE_bad1 d1]; decide)
                            rw [bdE_bad1 d1] at h
                            exact HF.out.trans h
                          go_wp2
                          exact bodyPost_ret (v := .tuple #[.int .i64 1, .int .i64 (k : Int)]) (by simp [results, Try.results4, go_sem]) rfl ⟨by rw [HW.out, HG.out], RJ.out.bl.alloc RJ.out.bl.size _⟩
                        | false =>
                          cases d2 : decide (4 < c.bds[k].call) with
                          | true =>
                            have HG : Hid (firstF bdE c.bds 0 = (1, (k : Int))) := by
                              have h := firstF_stop bdE c.bds k hlt (by rw [bdE_bad2 d2]; decide)
                              rw [bdE_bad2 d2] at h
                              exact HF.out.trans h
                            go_wp2
                            exact bodyPost_ret (v := .tuple #[.int .i64 1, .int .i64 (k : Int)]) (by simp [results, Try.results4, go_sem]) rfl ⟨by rw [HW.out, HG.out], RJ.out.bl.alloc RJ.out.bl.size _⟩
                          | false =>
                            cases d3 : decide (c.bds[k].act < 0) with
                            | true =>
                              have HG : Hid (firstF bdE c.bds 0 = (1, (k : Int))) := by
                                have h := firstF_stop bdE c.bds k hlt (by rw [bdE_bad3 d3]; decide)
                                rw [bdE_bad3 d3] at h
                                exact HF.out.trans h
                              go_wp2
                              exact bodyPost_ret (v := .tuple #[.int .i64 1, .int .i64 (k : Int)]) (by simp [results, Try.results4, go_sem]) rfl ⟨by rw [HW.out, HG.out], RJ.out.bl.alloc RJ.out.bl.size _⟩
                            | false =>
                              cases d4 : decide (6 < c.bds[k].act) with
                              | true =>
                                have HG : Hid (firstF bdE c.bds 0 = (1, (k : Int))) := by
                                  have h := firstF_stop bdE c.bds k hlt (by rw [bdE_bad4 d4]; decide)
                                  rw [bdE_bad4 d4] at h
                                  exact HF.out.trans h
                                go_wp2
                                exact bodyPost_ret (v := .tuple #[.int .i64 1, .int .i64 (k : Int)]) (by simp [results, Try.results4, go_sem]) rfl ⟨by rw [HW.out, HG.out], RJ.out.bl.alloc RJ.out.bl.size _⟩
                              | false =>
                                cases d5 : decide ((20 : Int) < (c.bds[k].text.size : Int)) with
                                | true =>
                                  have HG : Hid (firstF bdE c.bds 0 = (4, (k : Int))) := by
                                    have h := firstF_stop bdE c.bds k hlt (by rw [bdE_bad5 d1 d2 d3 d4 d5]; decide)
                                    rw [bdE_bad5 d1 d2 d3 d4 d5] at h
                                    exact HF.out.trans h
                                  go_wp2
                                  exact bodyPost_ret (v := .tuple #[.int .i64 4, .int .i64 (k : Int)]) (by simp [results, Try.results4, go_sem]) rfl ⟨by rw [HW.out, HG.out], RJ.out.bl.alloc RJ.out.bl.size _⟩
                                | false =>
                                  have HG : Hid (firstF bdE c.bds 0 = firstF bdE (c.bds.drop (k + 1)) (k + 1)) := HF.out.trans (firstF_go bdE c.bds k hlt (bdE_good d1 d2 d3 d4 d5))
                                  go_wp2
                                  go_roundw
                                  case rel => exact ⟨k + 1, by omega, by go_num, RJ.out.alloc _, HG⟩
                                  case measure => simp [intOf]; omega
                      · have HG : Hid (firstF bdE c.bds 0 = (0, -1)) := HF.out.trans (firstF_end bdE c.bds k (by omega))
                        go_wp2
                        exact bodyPost_ret (v := .tuple #[.int .i64 0, .int .i64 (-1)]) (by simp [results, Try.results4, go_sem]) rfl ⟨by rw [HW.out, HG.out], RJ.out.bl⟩
end Go.Proofs.Ytbpmcabeghbalaa
