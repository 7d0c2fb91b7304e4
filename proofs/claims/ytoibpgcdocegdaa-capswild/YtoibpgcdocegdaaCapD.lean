/- Package caps: limits; Wrong of any conf. -/
import Derived.Test.YtoibpgcdocegdaaCapC
namespace Go.Proofs.Ytoibpgcdocegdaa
open Go.RowKit

/-- A conf as data. -/
structure Cf where
  svs : List Sv
  ups : List Up
  bds : List Bd
  fl : Int
  co : Int
  wa : Int
  ti : Int
def cfV (c : Cf) (ao bo po : Option Addr) (ac bc pc : Nat) : Value := .agg #[.slice ao c.svs.length ac, .slice bo c.ups.length bc, .slice po c.bds.length pc, .int .i64 c.fl, .int .i64 c.co, .int .i64 c.wa, .int .i64 c.ti]
structure CfLies (w : World) (c : Cf) (ao bo po : Option Addr) : Prop where
  s : RowsAt svL 4 w ao c.svs
  u : RowsAt upL 4 w bo c.ups
  b : RowsAt bdL 5 w po c.bds
  sok : svOk c.svs
  uok : upOk c.ups
  bok : bdOk c.bds
theorem CfLies.below {w w' : World} {B : Nat} {c : Cf} {ao bo po : Option Addr} (h : CfLies w c ao bo po) (hB : w.heap.size ≤ B) (hb : Below B w w') : CfLies w' c ao bo po :=
  ⟨h.s.below hB hb, h.u.below hB hb, h.b.below hB hb, h.sok, h.uok, h.bok⟩

def limitsB (c : Cf) : Bool := countB c.fl && (countB c.co && (countB c.wa && (countB c.ti && !(c.co == 0))))

set_option maxRecDepth 100000 in
set_option maxHeartbeats 1000000 in
theorem limits_any (c : Cf) (ao bo po : Option Addr) (ac bc pc : Nat) (w : World) :
    Calls Try.prog 12 #[.agg #[.slice ao c.svs.length ac, .slice bo c.ups.length bc, .slice po c.bds.length pc, .int .i64 c.fl, .int .i64 c.co, .int .i64 c.wa, .int .i64 c.ti]] w fun e w' => e = .returned (.bool (limitsB c)) ∧ Below w.heap.size w w' := by
  have hbw : ∀ o : Obj, Below w.heap.size w (w.alloc o) := fun o => (Below.refl _ _).alloc (Nat.le_refl _) o
  generalize c.svs.length = n1
  generalize c.ups.length = n2
  generalize c.bds.length = n3
  have C1 : Hid (∀ W, Calls Try.prog 22 #[.int .i64 c.fl] W fun e w' => e = .returned (.bool (countB c.fl)) ∧ w' = W) := fun W => count_any _ W
  have C2 : Hid (∀ W, Calls Try.prog 22 #[.int .i64 c.co] W fun e w' => e = .returned (.bool (countB c.co)) ∧ w' = W) := fun W => count_any _ W
  have C3 : Hid (∀ W, Calls Try.prog 22 #[.int .i64 c.wa] W fun e w' => e = .returned (.bool (countB c.wa)) ∧ w' = W) := fun W => count_any _ W
  have C4 : Hid (∀ W, Calls Try.prog 22 #[.int .i64 c.ti] W fun e w' => e = .returned (.bool (countB c.ti)) ∧ w' = W) := fun W => count_any _ W
  have HR : Hid (limitsB c = (countB c.fl && (countB c.co && (countB c.wa && (countB c.ti && !(c.co == 0)))))) := rfl
  generalize limitsB c = R at HR
  generalize countB c.fl = b1 at C1 HR
  generalize countB c.co = b2 at C2 HR
  generalize countB c.wa = b3 at C3 HR
  generalize countB c.ti = b4 at C4 HR
  cases b1 with
  | false =>
    go_enter Try.func12, Try.ntmps12
    go_wp2_with fail
    refine (C1.out _).mono ?_
    rintro e w1 ⟨rfl, rfl⟩
    go_wp2
    go_ret
    exact ⟨ret_bool (by rw [HR.out]; rfl), hbw _⟩
  | true =>
    cases b2 with
    | false =>
      go_enter Try.func12, Try.ntmps12
      go_wp2_with fail
      refine (C1.out _).mono ?_
      rintro e w1 ⟨rfl, rfl⟩
      go_wp2_with fail
      refine (C2.out _).mono ?_
      rintro e w1 ⟨rfl, rfl⟩
      go_wp2
      go_ret
      exact ⟨ret_bool (by rw [HR.out]; rfl), hbw _⟩
    | true =>
      cases b3 with
      | false =>
        go_enter Try.func12, Try.ntmps12
        go_wp2_with fail
        refine (C1.out _).mono ?_
        rintro e w1 ⟨rfl, rfl⟩
        go_wp2_with fail
        refine (C2.out _).mono ?_
        rintro e w1 ⟨rfl, rfl⟩
        go_wp2_with fail
        refine (C3.out _).mono ?_
        rintro e w1 ⟨rfl, rfl⟩
        go_wp2
        go_ret
        exact ⟨ret_bool (by rw [HR.out]; rfl), hbw _⟩
      | true =>
        cases b4 with
        | false =>
          go_enter Try.func12, Try.ntmps12
          go_wp2_with fail
          refine (C1.out _).mono ?_
          rintro e w1 ⟨rfl, rfl⟩
          go_wp2_with fail
          refine (C2.out _).mono ?_
          rintro e w1 ⟨rfl, rfl⟩
          go_wp2_with fail
          refine (C3.out _).mono ?_
          rintro e w1 ⟨rfl, rfl⟩
          go_wp2_with fail
          refine (C4.out _).mono ?_
          rintro e w1 ⟨rfl, rfl⟩
          go_wp2
          go_ret
          exact ⟨ret_bool (by rw [HR.out]; rfl), hbw _⟩
        | true =>
          go_enter Try.func12, Try.ntmps12
          go_wp2_with fail
          refine (C1.out _).mono ?_
          rintro e w1 ⟨rfl, rfl⟩
          go_wp2_with fail
          refine (C2.out _).mono ?_
          rintro e w1 ⟨rfl, rfl⟩
          go_wp2_with fail
          refine (C3.out _).mono ?_
          rintro e w1 ⟨rfl, rfl⟩
          go_wp2_with fail
          refine (C4.out _).mono ?_
          rintro e w1 ⟨rfl, rfl⟩
          go_wp2
          go_ret
          exact ⟨ret_bool (by rw [HR.out]; rfl), hbw _⟩

def manyB (c : Cf) : Bool := decide ((6 : Int) < (c.svs.length : Int)) || (decide ((4 : Int) < (c.ups.length : Int)) || decide ((8 : Int) < (c.bds.length : Int)))
/-- What is wrong with a conf, and where. -/
def wrongC (c : Cf) : Int × Int :=
  if manyB c then (5, -1) else if limitsB c then
    (if (firstF svE c.svs 0).1 = 0 then (if (firstF upE c.ups 0).1 = 0 then firstF bdE c.bds 0 else firstF upE c.ups 0) else firstF svE c.svs 0)
  else (3, -1)

/-- The box of a conf, behind calls. -/
structure CBox (w : World) (B : Nat) (c : Cf) (ao bo po : Option Addr) (ac bc pc : Nat) : Prop where
  c0 : w.cell? ⟨B, 0, none⟩ = some (.slice ao c.svs.length ac)
  c1 : w.cell? ⟨B, 1, none⟩ = some (.slice bo c.ups.length bc)
  c2 : w.cell? ⟨B, 2, none⟩ = some (.slice po c.bds.length pc)
  c3 : w.cell? ⟨B, 3, none⟩ = some (.int .i64 c.fl)
  c4 : w.cell? ⟨B, 4, none⟩ = some (.int .i64 c.co)
  c5 : w.cell? ⟨B, 5, none⟩ = some (.int .i64 c.wa)
  c6 : w.cell? ⟨B, 6, none⟩ = some (.int .i64 c.ti)
  lt : B < w.heap.size
theorem CBox.keep {w w' : World} {B : Nat} {c : Cf} {ao bo po : Option Addr} {ac bc pc : Nat} (h : CBox w B c ao bo po ac bc pc) {K : Nat} (bl : Below K w w') (hK : B < K) : CBox w' B c ao bo po ac bc pc := by
  have e := fun j => bl.cell (p := ⟨B, j, none⟩) hK
  have s := bl.size
  have l := h.lt
  exact ⟨(e 0).trans h.c0, (e 1).trans h.c1, (e 2).trans h.c2, (e 3).trans h.c3, (e 4).trans h.c4, (e 5).trans h.c5, (e 6).trans h.c6, by omega⟩
theorem cbox_new (w : World) (c : Cf) (ao bo po : Option Addr) (ac bc pc : Nat) :
    CBox (w.alloc (.cells #[.slice ao c.svs.length ac, .slice bo c.ups.length bc, .slice po c.bds.length pc, .int .i64 c.fl, .int .i64 c.co, .int .i64 c.wa, .int .i64 c.ti] 28)) w.heap.size c ao bo po ac bc pc := by
  constructor <;> simp [go_sem]

set_option maxRecDepth 100000 in
set_option maxHeartbeats 1000000 in
theorem wrongC_any (c : Cf) (ao bo po : Option Addr) (ac bc pc : Nat) (w : World) (hl : CfLies w c ao bo po) :
    Calls Try.prog 5 #[.agg #[.slice ao c.svs.length ac, .slice bo c.ups.length bc, .slice po c.bds.length pc, .int .i64 c.fl, .int .i64 c.co, .int .i64 c.wa, .int .i64 c.ti]] w fun e w' => e = .returned (.tuple #[.int .i64 (wrongC c).1, .int .i64 (wrongC c).2]) ∧ Below w.heap.size w w' := by
  have hbw : ∀ o : Obj, Below w.heap.size w (w.alloc o) := fun o => (Below.refl _ _).alloc (Nat.le_refl _) o
  have hs1 := hl.s.small
  have hs2 := hl.u.small
  have hs3 := hl.b.small
  unfold maxLen at hs1 hs2 hs3
  have HL : Hid (CfLies w c ao bo po) := hl
  have BX : Hid (CBox _ _ c ao bo po ac bc pc) := cbox_new w c ao bo po ac bc pc
  clear hl
  have HW : Hid (wrongC c = if manyB c then (5, -1) else if limitsB c then
    (if (firstF svE c.svs 0).1 = 0 then (if (firstF upE c.ups 0).1 = 0 then firstF bdE c.bds 0 else firstF upE c.ups 0) else firstF svE c.svs 0)
    else (3, -1)) := rfl
  generalize wrongC c = R at HW
  cases m1 : decide ((6 : Int) < (c.svs.length : Int)) with
  | true =>
    have e : R = (5, -1) := by rw [HW.out]; unfold manyB; rw [m1]; rfl
    clear HW
    subst e
    go_enter Try.func5, Try.ntmps5
    go_wp2
    exact bodyPost_ret (v := .tuple #[.int .i64 5, .int .i64 (-1)]) (by simp [results, Try.results5, go_sem]) rfl ⟨rfl, hbw _⟩
  | false =>
    cases m2 : decide ((4 : Int) < (c.ups.length : Int)) with
    | true =>
      have e : R = (5, -1) := by rw [HW.out]; unfold manyB; rw [m1, m2]; rfl
      clear HW
      subst e
      go_enter Try.func5, Try.ntmps5
      go_wp2
      exact bodyPost_ret (v := .tuple #[.int .i64 5, .int .i64 (-1)]) (by simp [results, Try.results5, go_sem]) rfl ⟨rfl, hbw _⟩
    | false =>
      cases m3 : decide ((8 : Int) < (c.bds.length : Int)) with
      | true =>
        have e : R = (5, -1) := by rw [HW.out]; unfold manyB; rw [m1, m2, m3]; rfl
        clear HW
        subst e
        go_enter Try.func5, Try.ntmps5
        go_wp2
        exact bodyPost_ret (v := .tuple #[.int .i64 5, .int .i64 (-1)]) (by simp [results, Try.results5, go_sem]) rfl ⟨rfl, hbw _⟩
      | false =>
        have HM : Hid (manyB c = false) := by show manyB c = false; unfold manyB; rw [m1, m2, m3]; rfl
        rw [HM.out] at HW
        simp only [Bool.false_eq_true, if_false] at HW
        have HC : Hid (∀ W, Calls Try.prog 12 #[.agg #[.slice ao c.svs.length ac, .slice bo c.ups.length bc, .slice po c.bds.length pc, .int .i64 c.fl, .int .i64 c.co, .int .i64 c.wa, .int .i64 c.ti]] W fun e w' => e = .returned (.bool (limitsB c)) ∧ Below W.heap.size W w') := fun W => limits_any c ao bo po ac bc pc W
        cases hm : limitsB c with
        | false =>
          rw [hm] at HC HW
          simp only [Bool.false_eq_true, if_false] at HW
          have e : R = (3, -1) := HW.out
          clear HW hm
          subst e
          go_enter Try.func5, Try.ntmps5
          go_wp2_with fail
          refine (HC.out _).mono ?_
          rintro e w1 ⟨rfl, b1⟩
          go_wp2
          exact bodyPost_ret (v := .tuple #[.int .i64 3, .int .i64 (-1)]) (by simp [results, Try.results5, go_sem]) rfl ⟨rfl, (hbw _).trans (b1.mono (by simp))⟩
        | true =>
          rw [hm] at HC HW
          simp only [if_true] at HW
          clear hm
          go_enter Try.func5, Try.ntmps5
          go_wp2_with fail
          refine (HC.out _).mono ?_
          rintro e w1 ⟨rfl, b1⟩
          have BX1 : Hid (CBox w1 w.heap.size c ao bo po ac bc pc) := BX.out.keep b1 (by simp)
          have B1 : Hid (Below w.heap.size w w1) := (hbw _).trans (b1.mono (by simp))
          clear b1 BX HC
          obtain ⟨x0, x1, x2, x3, x4, x5, x6, xl⟩ := BX1.out
          go_wp2_with fail
          refine (firstSv_any c.svs ao ac _ (HL.out.s.below (Nat.le_refl _) B1.out) HL.out.sok).mono ?_
          rintro e w2 ⟨rfl, b2⟩
          have BX2 : Hid (CBox w2 w.heap.size c ao bo po ac bc pc) := BX1.out.keep b2 xl
          have B2 : Hid (Below w.heap.size w w2) := B1.out.trans (b2.mono (by omega))
          clear b2 BX1 B1 x0 x1 x2 x3 x4 x5 x6 xl
          generalize firstF svE c.svs 0 = f1 at HW
          obtain ⟨e1, i1⟩ := f1
          by_cases h1 : e1 = 0
          · subst h1
            simp only [if_true] at HW
            obtain ⟨x0, x1, x2, x3, x4, x5, x6, xl⟩ := BX2.out
            go_wp2_with fail
            refine (firstUp_any c.ups bo bc _ (HL.out.u.below (Nat.le_refl _) B2.out) HL.out.uok).mono ?_
            rintro e w3 ⟨rfl, b3⟩
            have BX3 : Hid (CBox w3 w.heap.size c ao bo po ac bc pc) := BX2.out.keep b3 xl
            have B3 : Hid (Below w.heap.size w w3) := B2.out.trans (b3.mono (by omega))
            clear b3 BX2 B2 x0 x1 x2 x3 x4 x5 x6 xl
            generalize firstF upE c.ups 0 = f2 at HW
            obtain ⟨e2, i2⟩ := f2
            by_cases h2 : e2 = 0
            · subst h2
              simp only [if_true] at HW
              obtain ⟨x0, x1, x2, x3, x4, x5, x6, xl⟩ := BX3.out
              go_wp2_with fail
              refine (firstBd_any c.bds po pc _ (HL.out.b.below (Nat.le_refl _) B3.out) HL.out.bok).mono ?_
              rintro e w4 ⟨rfl, b4⟩
              have B4 : Hid (Below w.heap.size w w4) := B3.out.trans (b4.mono (by omega))
              clear b4 BX3 B3 x0 x1 x2 x3 x4 x5 x6 xl
              rw [← HW.out]
              go_wp2
              exact bodyPost_ret (v := .tuple #[.int .i64 R.1, .int .i64 R.2]) (by simp [results, Try.results5, go_sem]) rfl ⟨rfl, B4.out⟩
            · have h2' : (e2 == 0) = false := by simpa using h2
              rw [if_neg h2] at HW
              have e : R = (e2, i2) := HW.out
              subst e
              clear HW h2
              go_wp2
              exact bodyPost_ret (v := .tuple #[.int .i64 e2, .int .i64 i2]) (by simp [results, Try.results5, go_sem]) rfl ⟨rfl, B3.out⟩
          · have h1' : (e1 == 0) = false := by simpa using h1
            rw [if_neg h1] at HW
            have e : R = (e1, i1) := HW.out
            subst e
            clear HW h1
            go_wp2
            exact bodyPost_ret (v := .tuple #[.int .i64 e1, .int .i64 i1]) (by simp [results, Try.results5, go_sem]) rfl ⟨rfl, B2.out⟩
end Go.Proofs.Ytoibpgcdocegdaa
