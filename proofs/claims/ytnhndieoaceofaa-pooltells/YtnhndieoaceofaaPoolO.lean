/- Asking for a lease: the document's own answer. -/
import Derived.Test.YtnhndieoaceofaaPoolH
import Derived.Test.YtnhndieoaceofaaLedDr
namespace Go.Proofs.Ytnhndieoaceofaa
open Go.RowKit

set_option maxRecDepth 100000 in
set_option maxHeartbeats 1000000 in
theorem rask_any (W : Wd) (A : Ad) (id waits : Int) (w : World) (ha : WdLies w W A) (hf : Fits W) :
    Calls Try.prog 9 #[wdV W A, .int .i64 id, .int .i64 waits] w fun e w' => ∃ A', e = .returned (.tuple #[wdV (askR W id waits) A', .int .i64 (askE W id waits)]) ∧ WdLies w' (askR W id waits) A' ∧ (∀ X, X < w.heap.size → Off W A X → Off (askR W id waits) A' X) ∧ Below w.heap.size w w' := by
  have H0 : Hid (OwnAt _ _ _ _ _) := OwnAt.made ha
  obtain ⟨w2, hw2⟩ : ∃ w2, (w.alloc (.cells #[.slice A.ho W.lg.holds.length A.hc, .int .i64 W.lg.m0, .int .i64 W.lg.m1, .int .i64 W.lg.m2, .int .i64 W.lg.m3, .slice A.ga W.gates.length A.gc, .slice A.fa W.failed.length A.fc, .slice A.qa W.queue.length A.qc, .slice A.ma W.marks.length A.mc] 29)).alloc (.cells #[.slice none 0 0, .int .i64 0, .int .i64 0, .int .i64 0, .int .i64 0, .slice none 0 0, .slice none 0 0, .slice none 0 0, .slice none 0 0] 29) = w2 := ⟨_, rfl⟩
  rw [hw2] at H0
  have HW : Hid (_ = w2) := hw2
  have HF : Hid (Fits W) := hf
  have hq1 := ha.q.small
  have hh1 := ha.h.small
  unfold maxLen at hq1 hh1
  obtain ⟨i3, hi3, hz3, hs3, hb3⟩ := info_parts Try.info3
  clear hw2 ha hf
  unfold wdV
  obtain ⟨a0, a1, a2, a3, a4, a5, a6, a7, a8, af, a9⟩ := H0.out.bx
  go_enter Try.func9, Try.ntmps9
  go_wp2_with (with_reducible refine Hid.out (p := wpList _ _ _ ({ dst := _, op := Op.load 26 _, type := _, pos := _, after := _, guard := _ } :: _) _ _) ?_)
  rw [HW.out]
  show wpList _ _ _ _ _ w2
  go_wp2
  go_loopw [18] (fun i wr => ∃ k : Nat, k ≤ W.queue.length ∧ i = .int .i64 k ∧ wr = w2 ∧ Hid (∀ i (hi : i < W.queue.length), i < k → (W.queue[i] == id) = false)) (fun i _ => W.queue.length - (intOf i).toNat)
  case atStart => exact ⟨0, by omega, rfl, rfl, fun _ _ h => absurd h (by omega)⟩
  case round =>
    obtain ⟨k, hk, rfl, hw, HN⟩ := hrel
    replace hw := hw.symm
    subst hw
    by_cases hlt : k < W.queue.length
    · obtain ⟨b, off, eb, hb, h0⟩ := H0.out.ld.q.lies k hlt
      have i1 : (k : Int) < (W.queue.length : Int) := by omega
      have HEB : Hid (A.qa = some ⟨b, off, none⟩) := eb
      rw [eb] at a7 ⊢
      clear eb
      cases e : (W.queue[k] == id) with
      | false =>
        have HS : Hid (∀ i (hi : i < W.queue.length), i < k + 1 → (W.queue[i] == id) = false) := fun i hi hik => by
          by_cases q : i = k
          · subst q; exact e
          · exact HN.out i hi (by omega)
        go_wp2
        go_roundw
        case rel => exact ⟨k + 1, by omega, by go_num, by first | rfl | trivial, HS⟩
        case measure => simp [intOf]; omega
      | true =>
        have HD : Hid (doneB W id = true) := by show _ = _; unfold doneB; rw [inB_true hlt (by rw [BEq.comm]; exact e)]; rfl
        have HE : Hid (askE W id waits = 9) := by show _ = _; unfold askE; rw [if_pos HD.out]
        have HR : Hid (askR W id waits = zeroWd) := by show _ = _; unfold askR; rw [if_pos HD.out]
        obtain ⟨z0, z1, z2, z3, z4, z5, z6, z7, z8, zf, z9⟩ := H0.out.zx
        go_wp2
        exact bodyPost_ret (v := .tuple #[.agg #[.slice none 0 0, .int .i64 0, .int .i64 0, .int .i64 0, .int .i64 0, .slice none 0 0, .slice none 0 0, .slice none 0 0, .slice none 0 0], .int .i64 9]) (by simp [results, Try.results9, go_sem, z0, z1, z2, z3, z4, z5, z6, z7, z8]) rfl ⟨zeroAd, by rw [HE.out, HR.out]; rfl, by rw [HR.out]; exact zeroLies _, fun X _ _ => by rw [HR.out]; exact zeroOff X, set9_below H0.out.bl (by omega)⟩
    · have HQF : Hid (inB id W.queue = false) := inB_false fun i hi => by rw [BEq.comm]; exact HN.out i hi (by omega)
      clear HN
      go_wp2_with (with_reducible refine Hid.out (p := wpList _ _ _ ({ dst := _, op := Op.load 22 _, type := _, pos := _, after := _, guard := _ } :: _) _ _) ?_)
      show wpList _ _ _ _ _ w2
      go_wp2
      clear a0 a1 a2 a3 a4 a5 a6 a7 a8 af a9
      go_loopw [31, 10] (fun i o wq => ∃ (j cnt : Nat), j ≤ W.lg.holds.length ∧ i = .int .i64 j ∧ o = .int .i64 cnt ∧ Hid (Below w2.heap.size w2 wq) ∧ cnt ≤ j ∧ Hid (countL 2 (W.lg.holds.take j) = cnt) ∧ Hid (∀ i (hi : i < W.lg.holds.length), i < j → isOf id 2 W.lg.holds[i] = false)) (fun i _ _ => W.lg.holds.length - (intOf i).toNat)
      case atStart => exact ⟨0, 0, by omega, rfl, rfl, Below.refl _ _, Nat.le_refl _, rfl, fun _ _ h => absurd h (by omega)⟩
      case round =>
        obtain ⟨j, cnt, hj, rfl, rfl, HBL, hcj, HM, HN⟩ := hrel
        by_cases hlj : j < W.lg.holds.length
        · obtain ⟨b, off, eb, hb, c0, c1, c2⟩ := (H0.out.ld.h.below (Nat.le_refl _) HBL.out).lies j hlj
          have i1 : (j : Int) < (W.lg.holds.length : Int) := by omega
          have HEB : Hid (A.ho = some ⟨b, off, none⟩) := eb
          rw [eb]
          clear eb
          have HS : Hid (countL 2 (W.lg.holds.take (j + 1)) = cnt + if (W.lg.holds[j].kind == 2) = true then 1 else 0) := by
            show _ = _
            rw [List.take_add_one, List.getElem?_eq_getElem hlj]
            show countL 2 (W.lg.holds.take j ++ [W.lg.holds[j]]) = _
            rw [countL_snoc, HM.out]
          have HNX : isOf id 2 W.lg.holds[j] = false → Hid (∀ i (hi : i < W.lg.holds.length), i < j + 1 → isOf id 2 W.lg.holds[i] = false) := fun e i hi hij => by
            by_cases q : i = j
            · subst q; exact e
            · exact HN.out i hi (by omega)
          have HBN := fun o => HBL.out.trans ((bel_alloc wr o).mono HBL.out.size)
          cases e : (W.lg.holds[j].kind == 2) with
          | false =>
            have HN1 := HNX (by unfold isOf; rw [e]; simp)
            clear HNX
            go_wp2
            go_roundw
            case rel => exact ⟨j + 1, cnt, by omega, by go_num, rfl, HBN _, by omega, by show _ = _; rw [HS.out, e]; rfl, HN1⟩
            case measure => simp [intOf]; omega
          | true =>
            cases e2 : (W.lg.holds[j].id == id) with
            | false =>
              have HN1 := HNX (by unfold isOf; rw [e2]; simp)
              clear HNX
              go_wp2
              go_roundw
              case rel => exact ⟨j + 1, cnt + 1, by omega, by go_num, by go_num, HBN _, by omega, by show _ = _; rw [HS.out, e]; rfl, HN1⟩
              case measure => simp [intOf]; omega
            | true =>
              have HD : Hid (doneB W id = true) := by show _ = _; unfold doneB leaseB; rw [anyB_true hlj (by unfold isOf; rw [e, e2]; rfl)]; simp
              have HE : Hid (askE W id waits = 9) := by show _ = _; unfold askE; rw [if_pos HD.out]
              have HR : Hid (askR W id waits = zeroWd) := by show _ = _; unfold askR; rw [if_pos HD.out]
              have H1 : Hid (OwnAt _ _ _ _ _) := (H0.out.keep HBL.out).keep (bel_alloc wr (.cells #[.int .i64 W.lg.holds[j].id, .int .i64 W.lg.holds[j].kind, .int .i64 W.lg.holds[j].filter] 52))
              clear HNX HBN
              obtain ⟨z0, z1, z2, z3, z4, z5, z6, z7, z8, zf, z9⟩ := H1.out.zx
              go_wp2
              exact bodyPost_ret (v := .tuple #[.agg #[.slice none 0 0, .int .i64 0, .int .i64 0, .int .i64 0, .int .i64 0, .slice none 0 0, .slice none 0 0, .slice none 0 0, .slice none 0 0], .int .i64 9]) (by simp [results, Try.results9, go_sem, z0, z1, z2, z3, z4, z5, z6, z7, z8]) rfl ⟨zeroAd, by rw [HE.out, HR.out]; rfl, by rw [HR.out]; exact zeroLies _, fun X _ _ => by rw [HR.out]; exact zeroOff X, set9_below H1.out.bl (by omega)⟩
        · have HC : Hid (countL 2 W.lg.holds = cnt) := by
            have := HM.out
            rw [List.take_of_length_le (by omega)] at this
            exact this
          have HD : Hid (¬ doneB W id = true) := by
            have h : leaseB id W.lg.holds = false := anyB_false fun i hi => HN.out i hi (by omega)
            show ¬ _
            unfold doneB
            rw [HQF.out, h]
            simp
          have H1 : Hid (OwnAt _ _ _ _ _) := H0.out.keep HBL.out
          have HTE : Hid (takeE W.lg 2 = if W.lg.m2 ≤ (cnt : Int) then 8 else 0) := by
            show _ = _
            unfold takeE
            rw [if_neg (by omega), HC.out]
            rfl
          clear HM HN HBL
          obtain ⟨a0, a1, a2, a3, a4, a5, a6, a7, a8, af, a9⟩ := H1.out.bx
          by_cases hm : W.lg.m2 ≤ (cnt : Int)
          · rw [if_pos hm] at HTE
            have HNF : Hid (¬ (W.queue.length = 0 ∧ takeE W.lg 2 = 0)) := fun h => by rw [HTE.out] at h; omega
            by_cases hw : waits ≤ (W.queue.length : Int)
            · have HE : Hid (askE W id waits = 8) := by show _ = _; unfold askE; rw [if_neg HD.out, if_neg HNF.out, if_pos hw]
              have HR : Hid (askR W id waits = zeroWd) := by show _ = _; unfold askR; rw [if_neg HD.out, if_neg HNF.out, if_pos hw]
              obtain ⟨z0, z1, z2, z3, z4, z5, z6, z7, z8, zf, z9⟩ := H1.out.zx
              go_wp2
              exact bodyPost_ret (v := .tuple #[.agg #[.slice none 0 0, .int .i64 0, .int .i64 0, .int .i64 0, .int .i64 0, .slice none 0 0, .slice none 0 0, .slice none 0 0, .slice none 0 0], .int .i64 8]) (by simp [results, Try.results9, go_sem, z0, z1, z2, z3, z4, z5, z6, z7, z8]) rfl ⟨zeroAd, by rw [HE.out, HR.out]; rfl, by rw [HR.out]; exact zeroLies _, fun X _ _ => by rw [HR.out]; exact zeroOff X, set9_below H1.out.bl (by omega)⟩
            · have HE : Hid (askE W id waits = 10) := by show _ = _; unfold askE; rw [if_neg HD.out, if_neg HNF.out, if_neg hw]
              have HR : Hid (askR W id waits = { W with queue := W.queue ++ [id] }) := by show _ = _; unfold askR; rw [if_neg HD.out, if_neg HNF.out, if_neg hw]
              go_wp2_with (at_builtin; refine Hid.out ?_)
              show wpList _ _ _ _ _ (wr.alloc (.cells #[] 3))
              have HSR : Hid (w.heap.size + 1 < wr.heap.size) := H1.out.zx.lt
              have OE : (wr.alloc (.cells #[] 3)).ownsRow wr.heap.size 3 1 (.slice (some ⟨wr.heap.size, 0, none⟩) 0 0) 0 [] := World.ownsRow_lit (base := wr.heap.size) (e := 3) (size := 1) wr #[] 0 (Nat.le_refl _) (by unfold maxLen; omega) rfl
              have LE := H1.out.ld.below (Nat.le_refl _) (bel_alloc wr (.cells #[] 3))
              have HFQ := HF.out.q
              clear a0 a1 a2 a3 a4 a5 a6 a7 a8 af a9
              refine wpList_app_empty rfl (.tmp 74) (.tmp 76) 26 rfl wr.heap.size 3 i3 _ 1 8 Try.underlying26 hi3 hz3 hs3 hb3 rfl (by decide) _ rfl OE A.qa W.queue.length A.qc (icells W.queue) rfl (fun e => ⟨ints_zero LE.q e, LE.qk.1 e⟩) (icells_length _) LE.q.news (icells_one _) LE.q.small (by omega) (by simp) ?_ rfl
              intro ao1 c1 w4 own4 gr4
              have b4 : Below wr.heap.size wr w4 := (bel_alloc wr (.cells #[] 3)).grown gr4 (by simp) (fun j hj => by have e : wr.heap.size = j := Option.some.inj hj; omega)
              clear OE LE gr4
              go_wp2_with (at_builtin; refine Hid.out ?_)
              show wpList _ _ _ _ _ (w4.alloc (.cells #[.int .i64 id] 3))
              have NW := World.news_of_block (cs := #[.int .i64 id]) (heap_alloc_new w4 (.cells #[.int .i64 id] 3))
              have s4 := b4.size
              refine wpList_append_lies _ rfl (.tmp 77) (.tmp 79) 26 rfl wr.heap.size 3 i3 _ 1 8 Try.underlying26 hi3 hz3 hs3 hb3 rfl (by decide) _ W.queue.length (icells W.queue) rfl (own4.alloc _) ⟨w4.heap.size, 0, none⟩ 1 1 [.int .i64 id] rfl rfl NW (icells_one [id]) (by decide) (by unfold maxLen; omega) HFQ (by simp; omega) (w4.heap.size + 1) (by simp) ?_
              intro g cap w5 own5 gr5 _ _
              have b5 : Below wr.heap.size wr w5 := (b4.alloc s4 _).grown gr5 (by simp; omega) (fun j hj => (own4.lt j hj).1)
              have H5 : Hid (OwnAt _ _ _ _ _) := H1.out.keep b5
              have own5' : w5.ownsRow wr.heap.size 3 1 (.slice (some ⟨g, 0, none⟩) (W.queue ++ [id]).length cap) (W.queue ++ [id]).length (icells (W.queue ++ [id])) := by rw [icells_append, List.length_append]; exact own5
              have HL5 : Hid (WdLies w5 { W with queue := W.queue ++ [id] } { A with qa := some ⟨g, 0, none⟩, qc := cap }) := { H5.out.ld with q := intsAt_of_owns own5' rfl (by unfold maxLen; simp; omega), qk := cap_of_owns own5' }
              have HOX : Hid (∀ X, X < wr.heap.size → Off W A X → Off { W with queue := W.queue ++ [id] } { A with qa := some ⟨g, 0, none⟩, qc := cap } X) := fun X hX ho => { ho with q := fun k off _ e => by have := (own5.lt g rfl).1; simp at e; omega }
              clear b5 b4 s4 own5 own5' own4 gr5 NW HFQ
              obtain ⟨a0, a1, a2, a3, a4, a5, a6, a7, a8, af, a9⟩ := H5.out.bx
              go_wp2_with (with_reducible refine Hid.out (p := wpList _ _ _ ({ dst := _, op := Op.load 29 _, type := _, pos := _, after := _, guard := _ } :: _) _ _) ?_)
              obtain ⟨w6, hw6⟩ : ∃ w6, w5.setCell ⟨w.heap.size, 7, none⟩ (.slice (some ⟨g, 0, none⟩) (W.queue.length + 1) cap) = w6 := ⟨_, rfl⟩
              show wpList _ _ _ _ _ (w5.setCell ⟨w.heap.size, 7, none⟩ (.slice (some ⟨g, 0, none⟩) (W.queue.length + 1) cap))
              rw [hw6]
              have HB6 : Hid (Box9 w6 w.heap.size (.slice A.ho W.lg.holds.length A.hc) (.int .i64 W.lg.m0) (.int .i64 W.lg.m1) (.int .i64 W.lg.m2) (.int .i64 W.lg.m3) (.slice A.ga W.gates.length A.gc) (.slice A.fa W.failed.length A.fc) (.slice (some ⟨g, 0, none⟩) (W.queue.length + 1) cap) (.slice A.ma W.marks.length A.mc)) := by rw [← hw6]; exact Box9.put7 H5.out.bx _
              have HZ6 : Hid (ZBox w6 (w.heap.size + 1)) := by rw [← hw6]; exact Box9.far1 H5.out.zx (by omega) _
              have HL6 : Hid (WdLies w6 { W with queue := W.queue ++ [id] } { A with qa := some ⟨g, 0, none⟩, qc := cap }) := by rw [← hw6]; exact HL5.out.far (by simp) (fun k j hk => setCell_far _ _ _ _ _ _ hk) (HOX.out _ (by have := HSR.out; omega) H5.out.o0)
              have HBL6 : Hid (Below w.heap.size w w6) := by rw [← hw6]; exact H5.out.bl.setCell (Nat.le_refl _) _
              clear hw6
              clear a0 a1 a2 a3 a4 a5 a6 a7 a8 af a9
              obtain ⟨a0, a1, a2, a3, a4, a5, a6, a7, a8, af, a9⟩ := HB6.out
              obtain ⟨z0, z1, z2, z3, z4, z5, z6, z7, z8, zf, z9⟩ := HZ6.out
              have HQL : Hid (W.queue.length + 1 = (W.queue ++ [id]).length) := by show _ = _; simp
              go_wp2
              exact bodyPost_ret (v := .tuple #[.agg #[.slice A.ho W.lg.holds.length A.hc, .int .i64 W.lg.m0, .int .i64 W.lg.m1, .int .i64 W.lg.m2, .int .i64 W.lg.m3, .slice A.ga W.gates.length A.gc, .slice A.fa W.failed.length A.fc, .slice (some ⟨g, 0, none⟩) (W.queue.length + 1) cap, .slice A.ma W.marks.length A.mc], .int .i64 10]) (by simp [results, Try.results9, go_sem, z0, z1, z2, z3, z4, z5, z6, z7, z8]) rfl ⟨{ A with qa := some ⟨g, 0, none⟩, qc := cap }, by rw [HE.out, HR.out, HQL.out], by rw [HR.out]; exact Wd.far9 HL6.out (HOX.out _ HSR.out H5.out.o1), fun X hX ho => by rw [HR.out]; exact HOX.out X (by have := HSR.out; omega) ho, set9_below HBL6.out (by omega)⟩
          · rw [if_neg hm] at HTE
            by_cases h0 : W.queue.length = 0
            · have q0 : ((W.queue.length : Int) == 0) = true := by simp [h0]
              have HE : Hid (askE W id waits = 0) := by show _ = _; unfold askE; rw [if_neg HD.out, if_pos ⟨h0, HTE.out⟩]
              obtain ⟨R, HR⟩ : ∃ R, Hid (askR W id waits = { W with lg := R } ∧ takeR W.lg id 2 (-1) = R) := ⟨_, by unfold askR; rw [if_neg HD.out, if_pos ⟨h0, HTE.out⟩], rfl⟩
              clear h0
              go_wp2_with fail
              refine (rtake_any W.lg _ id 2 (-1) wr H1.out.ld.lg HF.out.h).mono ?_
              rintro e w3 ⟨v', rfl, n3, b3⟩
              rw [HTE.out]
              rw [HR.out.2] at n3
              obtain ⟨ho1, hc1, rfl, m1, m2, m3, m4, mf⟩ := n3
              obtain ⟨w4, hw4⟩ : ∃ w4, w3.alloc (.cells #[.slice ho1 R.holds.length hc1, .int .i64 R.m0, .int .i64 R.m1, .int .i64 R.m2, .int .i64 R.m3] 25) = w4 := ⟨_, rfl⟩
              have b4 : Below w3.heap.size w3 w4 := by rw [← hw4]; exact bel_alloc _ _
              have H2 : Hid (OwnAt _ _ _ _ _) := (H1.out.keep b3).keep b4
              have HLB : Hid (Box5 w4 w3.heap.size (.slice ho1 R.holds.length hc1) (.int .i64 R.m0) (.int .i64 R.m1) (.int .i64 R.m2) (.int .i64 R.m3)) := by rw [← hw4]; exact Box5.made rfl _ _ _ _ _ _
              have HM4 : Hid (HoldsAt w4 ho1 R.holds) := m1.below (Nat.le_refl _) b4
              have HK4 : Hid (Cap ho1 R.holds.length hc1) := ⟨m2, m3, m4⟩
              have HFR : Hid (Fresh wr.heap.size ho1 R.holds) := mf
              have HSR : Hid (w.heap.size + 1 < wr.heap.size) := H1.out.zx.lt
              have HW4 : Hid (w3.alloc (.cells #[.slice ho1 R.holds.length hc1, .int .i64 R.m0, .int .i64 R.m1, .int .i64 R.m2, .int .i64 R.m3] 25) = w4) := hw4
              have s3 := b3.size
              clear a0 a1 a2 a3 a4 a5 a6 a7 a8 af a9
              clear m1 m2 m3 m4 mf b3 b4 hw4
              unfold lgV
              go_wp2_with (with_reducible refine Hid.out (p := wpList _ _ _ ({ dst := _, op := Op.load 25 _, type := _, pos := _, after := _, guard := _ } :: _) _ _) ?_)
              rw [HW4.out]
              show wpList _ _ _ _ _ w4
              obtain ⟨a0, a1, a2, a3, a4, a5, a6, a7, a8, af, a9⟩ := H2.out.bx
              obtain ⟨l0, l1, l2, l3, l4, lf, l9⟩ := HLB.out
              have hsr := HSR.out
              have x4 : ¬ w3.heap.size = w.heap.size := by omega
              have x5 : ¬ w.heap.size = w3.heap.size := by omega
              clear s3 hsr
              go_wp2_with (with_reducible refine Hid.out (p := wpList _ _ _ ({ dst := _, op := Op.load 29 _, type := _, pos := _, after := _, guard := _ } :: _) _ _) ?_)
              obtain ⟨w5, hw5⟩ : ∃ w5, set5 w4 w.heap.size R ho1 hc1 = w5 := ⟨_, rfl⟩
              show wpList _ _ _ _ _ (set5 w4 w.heap.size R ho1 hc1)
              rw [hw5]
              have OX : ∀ X, X < wr.heap.size → Off W A X → Off { W with lg := R } { A with ho := ho1, hc := hc1 } X := fun X hX ho => { ho with h := fun k off hne e => by have := HFR.out k off hne e; omega }
              have HOX : Hid (∀ X, X < wr.heap.size → Off W A X → Off { W with lg := R } { A with ho := ho1, hc := hc1 } X) := OX
              have HB5 : Hid (Box9 w5 w.heap.size (.slice ho1 R.holds.length hc1) (.int .i64 R.m0) (.int .i64 R.m1) (.int .i64 R.m2) (.int .i64 R.m3) (.slice A.ga W.gates.length A.gc) (.slice A.fa W.failed.length A.fc) (.slice A.qa W.queue.length A.qc) (.slice A.ma W.marks.length A.mc)) := by rw [← hw5]; exact Box9.set5 H2.out.bx _ _ _
              have HZ5 : Hid (ZBox w5 (w.heap.size + 1)) := by rw [← hw5]; exact Box9.far5 H2.out.zx (by omega) _ _ _
              have HL5 : Hid (WdLies w5 { W with lg := R } { A with ho := ho1, hc := hc1 }) := by
                have l4 : WdLies w4 { W with lg := R } { A with ho := ho1, hc := hc1 } := { H2.out.ld with h := HM4.out, hk := HK4.out }
                rw [← hw5]
                exact l4.far (by rw [set5_size]; exact Nat.le_refl _) (fun k j hk => set5_far hk) (OX _ (by have := HSR.out; omega) H2.out.o0)
              have HBL5 : Hid (Below w.heap.size w w5) := by rw [← hw5]; exact set5_below' H2.out.bl (Nat.le_refl _)
              clear hw5 OX l0 l1 l2 l3 l4 lf l9 x4 x5
              clear a0 a1 a2 a3 a4 a5 a6 a7 a8 af a9
              obtain ⟨a0, a1, a2, a3, a4, a5, a6, a7, a8, af, a9⟩ := HB5.out
              obtain ⟨z0, z1, z2, z3, z4, z5, z6, z7, z8, zf, z9⟩ := HZ5.out
              go_wp2
              exact bodyPost_ret (v := .tuple #[.agg #[.slice ho1 R.holds.length hc1, .int .i64 R.m0, .int .i64 R.m1, .int .i64 R.m2, .int .i64 R.m3, .slice A.ga W.gates.length A.gc, .slice A.fa W.failed.length A.fc, .slice A.qa W.queue.length A.qc, .slice A.ma W.marks.length A.mc], .int .i64 0]) (by simp [results, Try.results9, go_sem, z0, z1, z2, z3, z4, z5, z6, z7, z8]) rfl ⟨{ A with ho := ho1, hc := hc1 }, by rw [HE.out, HR.out.1], by rw [HR.out.1]; exact Wd.far9 HL5.out (HOX.out _ HSR.out H2.out.o1), fun X hX ho => by rw [HR.out.1]; exact HOX.out X (by have := HSR.out; omega) ho, set9_below HBL5.out (by omega)⟩
            · have q0 : ((W.queue.length : Int) == 0) = false := by simp [h0]
              have HNF : Hid (¬ (W.queue.length = 0 ∧ takeE W.lg 2 = 0)) := fun h => h0 h.1
              clear h0
              by_cases hw : waits ≤ (W.queue.length : Int)
              · have HE : Hid (askE W id waits = 8) := by show _ = _; unfold askE; rw [if_neg HD.out, if_neg HNF.out, if_pos hw]
                have HR : Hid (askR W id waits = zeroWd) := by show _ = _; unfold askR; rw [if_neg HD.out, if_neg HNF.out, if_pos hw]
                obtain ⟨z0, z1, z2, z3, z4, z5, z6, z7, z8, zf, z9⟩ := H1.out.zx
                go_wp2
                exact bodyPost_ret (v := .tuple #[.agg #[.slice none 0 0, .int .i64 0, .int .i64 0, .int .i64 0, .int .i64 0, .slice none 0 0, .slice none 0 0, .slice none 0 0, .slice none 0 0], .int .i64 8]) (by simp [results, Try.results9, go_sem, z0, z1, z2, z3, z4, z5, z6, z7, z8]) rfl ⟨zeroAd, by rw [HE.out, HR.out]; rfl, by rw [HR.out]; exact zeroLies _, fun X _ _ => by rw [HR.out]; exact zeroOff X, set9_below H1.out.bl (by omega)⟩
              · have HE : Hid (askE W id waits = 10) := by show _ = _; unfold askE; rw [if_neg HD.out, if_neg HNF.out, if_neg hw]
                have HR : Hid (askR W id waits = { W with queue := W.queue ++ [id] }) := by show _ = _; unfold askR; rw [if_neg HD.out, if_neg HNF.out, if_neg hw]
                go_wp2_with (at_builtin; refine Hid.out ?_)
                show wpList _ _ _ _ _ (wr.alloc (.cells #[] 3))
                have HSR : Hid (w.heap.size + 1 < wr.heap.size) := H1.out.zx.lt
                have OE : (wr.alloc (.cells #[] 3)).ownsRow wr.heap.size 3 1 (.slice (some ⟨wr.heap.size, 0, none⟩) 0 0) 0 [] := World.ownsRow_lit (base := wr.heap.size) (e := 3) (size := 1) wr #[] 0 (Nat.le_refl _) (by unfold maxLen; omega) rfl
                have LE := H1.out.ld.below (Nat.le_refl _) (bel_alloc wr (.cells #[] 3))
                have HFQ := HF.out.q
                clear a0 a1 a2 a3 a4 a5 a6 a7 a8 af a9
                refine wpList_app_empty rfl (.tmp 74) (.tmp 76) 26 rfl wr.heap.size 3 i3 _ 1 8 Try.underlying26 hi3 hz3 hs3 hb3 rfl (by decide) _ rfl OE A.qa W.queue.length A.qc (icells W.queue) rfl (fun e => ⟨ints_zero LE.q e, LE.qk.1 e⟩) (icells_length _) LE.q.news (icells_one _) LE.q.small (by omega) (by simp) ?_ rfl
                intro ao1 c1 w4 own4 gr4
                have b4 : Below wr.heap.size wr w4 := (bel_alloc wr (.cells #[] 3)).grown gr4 (by simp) (fun j hj => by have e : wr.heap.size = j := Option.some.inj hj; omega)
                clear OE LE gr4
                go_wp2_with (at_builtin; refine Hid.out ?_)
                show wpList _ _ _ _ _ (w4.alloc (.cells #[.int .i64 id] 3))
                have NW := World.news_of_block (cs := #[.int .i64 id]) (heap_alloc_new w4 (.cells #[.int .i64 id] 3))
                have s4 := b4.size
                refine wpList_append_lies _ rfl (.tmp 77) (.tmp 79) 26 rfl wr.heap.size 3 i3 _ 1 8 Try.underlying26 hi3 hz3 hs3 hb3 rfl (by decide) _ W.queue.length (icells W.queue) rfl (own4.alloc _) ⟨w4.heap.size, 0, none⟩ 1 1 [.int .i64 id] rfl rfl NW (icells_one [id]) (by decide) (by unfold maxLen; omega) HFQ (by simp; omega) (w4.heap.size + 1) (by simp) ?_
                intro g cap w5 own5 gr5 _ _
                have b5 : Below wr.heap.size wr w5 := (b4.alloc s4 _).grown gr5 (by simp; omega) (fun j hj => (own4.lt j hj).1)
                have H5 : Hid (OwnAt _ _ _ _ _) := H1.out.keep b5
                have own5' : w5.ownsRow wr.heap.size 3 1 (.slice (some ⟨g, 0, none⟩) (W.queue ++ [id]).length cap) (W.queue ++ [id]).length (icells (W.queue ++ [id])) := by rw [icells_append, List.length_append]; exact own5
                have HL5 : Hid (WdLies w5 { W with queue := W.queue ++ [id] } { A with qa := some ⟨g, 0, none⟩, qc := cap }) := { H5.out.ld with q := intsAt_of_owns own5' rfl (by unfold maxLen; simp; omega), qk := cap_of_owns own5' }
                have HOX : Hid (∀ X, X < wr.heap.size → Off W A X → Off { W with queue := W.queue ++ [id] } { A with qa := some ⟨g, 0, none⟩, qc := cap } X) := fun X hX ho => { ho with q := fun k off _ e => by have := (own5.lt g rfl).1; simp at e; omega }
                clear b5 b4 s4 own5 own5' own4 gr5 NW HFQ
                obtain ⟨a0, a1, a2, a3, a4, a5, a6, a7, a8, af, a9⟩ := H5.out.bx
                go_wp2_with (with_reducible refine Hid.out (p := wpList _ _ _ ({ dst := _, op := Op.load 29 _, type := _, pos := _, after := _, guard := _ } :: _) _ _) ?_)
                obtain ⟨w6, hw6⟩ : ∃ w6, w5.setCell ⟨w.heap.size, 7, none⟩ (.slice (some ⟨g, 0, none⟩) (W.queue.length + 1) cap) = w6 := ⟨_, rfl⟩
                show wpList _ _ _ _ _ (w5.setCell ⟨w.heap.size, 7, none⟩ (.slice (some ⟨g, 0, none⟩) (W.queue.length + 1) cap))
                rw [hw6]
                have HB6 : Hid (Box9 w6 w.heap.size (.slice A.ho W.lg.holds.length A.hc) (.int .i64 W.lg.m0) (.int .i64 W.lg.m1) (.int .i64 W.lg.m2) (.int .i64 W.lg.m3) (.slice A.ga W.gates.length A.gc) (.slice A.fa W.failed.length A.fc) (.slice (some ⟨g, 0, none⟩) (W.queue.length + 1) cap) (.slice A.ma W.marks.length A.mc)) := by rw [← hw6]; exact Box9.put7 H5.out.bx _
                have HZ6 : Hid (ZBox w6 (w.heap.size + 1)) := by rw [← hw6]; exact Box9.far1 H5.out.zx (by omega) _
                have HL6 : Hid (WdLies w6 { W with queue := W.queue ++ [id] } { A with qa := some ⟨g, 0, none⟩, qc := cap }) := by rw [← hw6]; exact HL5.out.far (by simp) (fun k j hk => setCell_far _ _ _ _ _ _ hk) (HOX.out _ (by have := HSR.out; omega) H5.out.o0)
                have HBL6 : Hid (Below w.heap.size w w6) := by rw [← hw6]; exact H5.out.bl.setCell (Nat.le_refl _) _
                clear hw6
                clear a0 a1 a2 a3 a4 a5 a6 a7 a8 af a9
                obtain ⟨a0, a1, a2, a3, a4, a5, a6, a7, a8, af, a9⟩ := HB6.out
                obtain ⟨z0, z1, z2, z3, z4, z5, z6, z7, z8, zf, z9⟩ := HZ6.out
                have HQL : Hid (W.queue.length + 1 = (W.queue ++ [id]).length) := by show _ = _; simp
                go_wp2
                exact bodyPost_ret (v := .tuple #[.agg #[.slice A.ho W.lg.holds.length A.hc, .int .i64 W.lg.m0, .int .i64 W.lg.m1, .int .i64 W.lg.m2, .int .i64 W.lg.m3, .slice A.ga W.gates.length A.gc, .slice A.fa W.failed.length A.fc, .slice (some ⟨g, 0, none⟩) (W.queue.length + 1) cap, .slice A.ma W.marks.length A.mc], .int .i64 10]) (by simp [results, Try.results9, go_sem, z0, z1, z2, z3, z4, z5, z6, z7, z8]) rfl ⟨{ A with qa := some ⟨g, 0, none⟩, qc := cap }, by rw [HE.out, HR.out, HQL.out], by rw [HR.out]; exact Wd.far9 HL6.out (HOX.out _ HSR.out H5.out.o1), fun X hX ho => by rw [HR.out]; exact HOX.out X (by have := HSR.out; omega) ho, set9_below HBL6.out (by omega)⟩
end Go.Proofs.Ytnhndieoaceofaa
