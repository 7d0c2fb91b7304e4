/- The document's own Parse answers what Parse does. -/
import Derived.Test.YtlkfkhpokkjkpaaDoorMsgX
namespace Go.Proofs.YtlkfkhpokkjkpaaDoor
open Go.RowKit

theorem rno {s : List UInt8} (h : rreadL s = none) {w : World} {f : FuncId} {args : Array Value}
    (hc : Calls Tryd.prog f args w fun e w' => e = .returned (.tuple #[msgV 0 [], .int .i64 2]) ∧ Below w.heap.size w w') :
    Calls Tryd.prog f args w fun e w' => ∃ v, e = .returned (.tuple #[v, .int .i64 (parseE s)]) ∧ MsAt w' v (parseM s) ∧ Below w.heap.size w w' := by
  refine hc.mono ?_
  rintro e w' ⟨rfl, hb⟩
  rw [parseE_r, parseM_r, h]
  exact ⟨_, rfl, msAt_zero _, hb⟩
theorem take_short {l p : List UInt8} (h : l.length < 4) (hp : p.length = 4) : (l.take 4 == p) = false := by
  rw [beq_eq_false_iff_ne]
  intro e
  have := congrArg List.length e
  rw [List.length_take, hp] at this
  omega

theorem rparse_any (s : ByteArray) (w : World) (hs : s.size ≤ 1048576) (hg : Glob w) :
    Calls Tryd.prog 20 #[.string s] w fun e w' => ∃ v, e = .returned (.tuple #[v, .int .i64 (parseE s.data.toList)]) ∧ MsAt w' v (parseM s.data.toList) ∧ Below w.heap.size w w' := by
  obtain ⟨l0, r0, e0, hL⟩ : ∃ l0 r0 e0, cutL 10 s.data.toList = (l0, r0, e0) := ⟨_, _, _, rfl⟩
  have hread : rreadL s.data.toList = match firstL l0 with | none => none | some (st, p) => if e0 then (rreadR r0 []).map fun x => { st := st, path := B p, heads := x.1, body := B x.2 } else none := by
    rw [rreadL, hL]; rfl
  cases e0 with
  | false =>
    refine rno ?_ (rparse_no1 s w hs l0 r0 hL)
    rw [hread]; cases firstL l0 with
    | none => rfl
    | some q => rfl
  | true =>
    have hsome : ∀ st p, firstL l0 = some (st, p) → 4 ≤ l0.length → ((l0.take 4 == [97, 115, 107, 32]) = true ∧ st = 0 ∧ p = l0.drop 4 ∨ (l0.take 4 == [97, 115, 107, 32]) = false ∧ (l0.take 4 == [115, 97, 121, 32]) = true ∧ Lib.atoiAll (l0.drop 4) = .ok st ∧ ¬ st = 0 ∧ Lib.itoa st = l0.drop 4 ∧ p = []) →
        Calls Tryd.prog 20 #[.string s] w fun e w' => ∃ v, e = .returned (.tuple #[v, .int .i64 (parseE s.data.toList)]) ∧ MsAt w' v (parseM s.data.toList) ∧ Below w.heap.size w w' := by
      intro st p hf h4 hw
      rw [hf] at hread
      have hread' : rreadL s.data.toList = (rreadR r0 []).map fun x => { st := st, path := B p, heads := x.1, body := B x.2 } := hread
      refine rparse_some s w hs hg l0 r0 hL h4 st p hw _ _ ?_ ?_
      · rw [parseE_r, hread']; cases rreadR r0 [] <;> rfl
      · rw [parseM_r, hread']; cases rreadR r0 [] <;> rfl
    have hnone : firstL l0 = none → rreadL s.data.toList = none := fun h => by rw [hread, h]
    by_cases h4 : l0.length < 4
    · refine rno (hnone ?_) (rparse_no2 s w hs l0 r0 hL h4)
      rw [firstL, hasPrefix_take _ _ rfl, hasPrefix_take _ _ rfl, take_short h4 rfl, take_short h4 rfl]; rfl
    have h4' : 4 ≤ l0.length := by omega
    cases h5 : (l0.take 4 == [97, 115, 107, 32]) with
    | true =>
      exact hsome 0 (l0.drop 4) (by rw [firstL, hasPrefix_take _ _ rfl, h5]; rfl) h4' (.inl ⟨h5, rfl, rfl⟩)
    | false =>
      cases h6 : (l0.take 4 == [115, 97, 121, 32]) with
      | false =>
        refine rno (hnone ?_) (rparse_no3 s w hs l0 r0 hL h4' h5 h6)
        rw [firstL, hasPrefix_take _ _ rfl, hasPrefix_take _ _ rfl, h5, h6]; rfl
      | true =>
        have hf : firstL l0 = (numL (l0.drop 4)).map fun n => (n, []) := by rw [firstL, hasPrefix_take _ _ rfl, hasPrefix_take _ _ rfl, h5, h6]; rfl
        cases hO : Lib.atoiAll (l0.drop 4) with
        | «syntax» =>
          refine rno (hnone ?_) (rparse_no4 s w hs l0 r0 hL h4' h5 h6 hg hO)
          rw [hf, numL, hO]; rfl
        | range =>
          refine rno (hnone ?_) (rparse_no5 s w hs l0 r0 hL h4' h5 h6 hg hO)
          rw [hf, numL, hO]; rfl
        | ok n =>
          by_cases h0 : n = 0
          · refine rno (hnone ?_) (rparse_no6 s w hs l0 r0 hL h4' h5 h6 hg n hO h0)
            rw [hf, numL, hO]; simp [h0]
          by_cases h1 : Lib.itoa n = l0.drop 4
          · exact hsome n [] (by rw [hf, numL, hO]; simp [h0, h1]) h4' (.inr ⟨h5, h6, hO, h0, h1, rfl⟩)
          · refine rno (hnone ?_) (rparse_no7 s w hs l0 r0 hL h4' h5 h6 hg n hO h0 h1)
            rw [hf, numL, hO]; simp [h0, h1]
end Go.Proofs.YtlkfkhpokkjkpaaDoor
