/- Walks of Wrong. -/
import Derived.Test.YtlkfkhpokkjkpaaDoorMsgE
import Derived.Lib.QuietBelow
namespace Go.Proofs.YtlkfkhpokkjkpaaDoor
open Go.RowKit

theorem HeadsAt.take {w : World} {ao : Option Addr} {hs : List Hd} (h : HeadsAt w ao hs) (k : Nat) : HeadsAt w ao (hs.take k) where
  lies i hi := by
    have hi' : i < hs.length := by simp at hi; omega
    obtain ⟨b, off, h1, h2, h3, h4⟩ := h.lies i hi'
    exact ⟨b, off, h1, h2, by simpa using h3, by simpa using h4⟩
  small := by have := h.small; simp; omega
  size h' hh := h.size h' (List.mem_of_mem_take hh)

/-- A head that may stand at its place. -/
def goodAt (hs : List Hd) (i : Nat) : Bool :=
  match hs[i]? with
  | none => true
  | some h => keyB h.1 && (decide (fndI h.1 (hs.take i) < 0) && linB h.2)
def okHs (hs : List Hd) : Bool := (List.range hs.length).all (goodAt hs)
theorem okHs_true {hs : List Hd} (h : ∀ i, i < hs.length → goodAt hs i = true) : okHs hs = true := by
  unfold okHs; rw [List.all_eq_true]; exact fun i hi => h i (List.mem_range.1 hi)
theorem okHs_false {hs : List Hd} (i : Nat) (hi : i < hs.length) (h : goodAt hs i = false) : okHs hs = false := by
  unfold okHs; rw [List.all_eq_false]; exact ⟨i, List.mem_range.2 hi, by simp [h]⟩

/-- What Wrong tells. -/
def wrongE (m : Ms) : Int :=
  if m.st ≠ 0 ∧ (m.st < 100 ∨ 599 < m.st) then 3
  else if m.st = 0 ∧ pthB m.path = false then 2
  else if m.st ≠ 0 ∧ m.path.toList ≠ [] then 2
  else if 6 < m.heads.length then 5
  else if 40 < m.body.size then 4
  else if okHs m.heads then 0 else 7

/-- A callee that leaves the world alone, met in a world of the class. -/
theorem regrown_same {P : Program} {f : FuncId} {args : Array Value} {w : World} {d : Nat} {os : Array Obj} {v : Value}
    (h : Calls P f args (Sort.grow (redrawn w d) os) fun e w' => e = .returned v ∧ w' = Sort.grow (redrawn w d) os) : Calls P f args (Sort.grow (redrawn w d) os) fun e w'' => e = .returned v ∧ ∃ p : Regrown, w'' = Sort.grow (redrawn w p.d) p.os :=
  h.mono fun _ _ ⟨he, hb⟩ => ⟨he, ⟨d, os⟩, hb⟩

theorem find_n (hs : List Hd) (n : Nat) (hn : hs.length = n) (key : ByteArray) (ao : Option Addr) (cap : Nat) (w : World) (hh : HeadsAt w ao hs) :
    Calls Tryd.prog 39 #[.slice ao n cap, .string key] w fun e w' => e = .returned (.int .i64 (fndI key hs)) ∧ Below w.heap.size w w' := by
  subst hn; exact find_any hs key ao cap w hh
theorem Tryd.mixed : Tryd.prog.follows .mixedOrders = true := by kernel_rfl

set_option maxRecDepth 100000 in
set_option maxHeartbeats 1000000 in
theorem wrong_heads (m : Ms) (v : Value) (w : World) (hm : MsAt w v m) (h1 : (m.st == 0) = true ∧ pthB m.path = true ∨ (m.st == 0) = false ∧ decide (m.st < 100) = false ∧ decide (599 < m.st) = false ∧ m.path.toList = []) (h3 : m.heads.length ≤ 6) (h4 : m.body.size ≤ 40) :
    Calls Tryd.prog 10 #[v] w fun e w' => e = .returned (.int .i64 (if okHs m.heads then 0 else 7)) ∧ Below w.heap.size w w' := by
  obtain ⟨⟨ao, c, bo, d, rfl, a1, a2, _, _, n3, n4⟩, hp, R⟩ := hm
  clear R
  generalize hr : (if okHs m.heads then (0 : Int) else 7) = r
  have HR : Hid ((if okHs m.heads then (0 : Int) else 7) = r) := hr
  clear hr
  have q3 : decide ((6 : Int) < (m.heads.length : Int)) = false := by simp; omega
  have q4 : decide ((40 : Int) < (m.body.size : Int)) = false := by simp; omega
  have i3 : (m.heads.length : Int) ≤ 6 := by omega
  rcases h1 with ⟨h1, h2⟩ | ⟨h1, h2, h2', h2''⟩
  · go_enter Tryd.func10, Tryd.ntmps10
    go_wp2_with (first | (go_at_call 14; refine (path_any _ _ hp).mono ?_; rintro e w' ⟨rfl, rfl⟩))
    go_loopw [51] (fun i wr => ∃ k : Nat, k ≤ m.heads.length ∧ i = .int .i64 k ∧ Below (w.heap.size + 1) (w.alloc (.cells #[.int .i64 m.st, .string m.path, .slice ao m.heads.length c, .slice bo m.body.size d] 25)) wr ∧ Hid (∀ j, j < k → goodAt m.heads j = true)) (fun i _ => m.heads.length - (intOf i).toNat)
    case atStart => exact ⟨0, by omega, rfl, Below.refl _ _, fun _ h => absurd h (by omega)⟩
    case round =>
      obtain ⟨k, hk, rfl, hbel, HN⟩ := hrel
      have bw : Below w.heap.size w wr := ((Below.refl _ _).alloc (Nat.le_refl _) _).trans (hbel.mono (by omega))
      by_cases hlt : k < m.heads.length
      · obtain ⟨b, off, rfl, hb, c0, c1⟩ := a1.lies k hlt
        have hlt' : (k : Int) < (m.heads.length : Int) := by omega
        rw [← bw.cell (p := ⟨b, off + k * 2, none⟩) (by simpa using hb)] at c0
        rw [← bw.cell (p := ⟨b, off + k * 2 + 1, none⟩) (by simpa using hb)] at c1
        have hbx := fun j => hbel.cell (p := ⟨w.heap.size, j, none⟩) (by show w.heap.size < _; omega)
        have hsz := hbel.size
        simp at hsz
        have hz := a1.size m.heads[k] (List.getElem_mem hlt)
        have g0 : ∀ d os, (Sort.grow (redrawn (wr.alloc (.cells #[.string m.heads[k].1, .string m.heads[k].2] 52)) d) os).cell? ⟨wr.heap.size, 0, none⟩ = some (.string m.heads[k].1) := fun d os => cell_regrown (by simp) d os
        have g1 : ∀ d os, (Sort.grow (redrawn (wr.alloc (.cells #[.string m.heads[k].1, .string m.heads[k].2] 52)) d) os).cell? ⟨wr.heap.size, 1, none⟩ = some (.string m.heads[k].2) := fun d os => cell_regrown (by simp) d os
        have g2 : ∀ d' os, (Sort.grow (redrawn (wr.alloc (.cells #[.string m.heads[k].1, .string m.heads[k].2] 52)) d') os).cell? ⟨w.heap.size, 2, none⟩ = some (.slice (some ⟨b, off, none⟩) m.heads.length c) := fun d os => cell_regrown (by rw [((Below.refl _ wr).alloc (Nat.le_refl _) _).cell (p := ⟨w.heap.size, 2, none⟩) (by show w.heap.size < _; omega), hbx]; simp) d os
        have hh : ∀ d os, HeadsAt (Sort.grow (redrawn (wr.alloc (.cells #[.string m.heads[k].1, .string m.heads[k].2] 52)) d) os) (some ⟨b, off, none⟩) (m.heads.take k) := fun d os => (a1.take k).below (Nat.le_refl _) ((bw.alloc (by omega) _).trans ((below_regrown _ d os).mono (by simp; omega)))
        have hkc : (k : Int) ≤ (c : Int) := by omega
        have HG : Hid (goodAt m.heads k = (keyB m.heads[k].1 && (decide (fndI m.heads[k].1 (m.heads.take k) < 0) && linB m.heads[k].2))) := by
          show goodAt m.heads k = _
          rw [goodAt, List.getElem?_eq_getElem hlt]
        cases e1 : keyB m.heads[k].1 with
        | true =>
          rcases fnd_cases m.heads[k].1 (m.heads.take k) with ⟨e2, _⟩ | ⟨j, _, e2, _, _⟩
          · cases e3 : linB m.heads[k].2 with
            | true =>
              go_wp2
              refine wp_region_quiet_below Tryd.mixed (by kernel_rfl) ?_
              repeat (go_big_quiet_step (first | (go_at_call 12; exact regrown_same (key_any _ _ hz.1)) | (go_at_call 39; exact Calls.regrown_of (find_n (m.heads.take k) k (by simp; omega) _ _ _ _ (hh _ _))) | (go_at_call 40; exact regrown_same (line_any _ _ hz.2))))
              refine wpQuiet_nil ?_
              intro _ hw'
              obtain ⟨⟨dq, osq⟩, hw''⟩ := hw'
              subst hw''
              go_wp2
              go_roundw
              case rel => exact ⟨k + 1, by omega, by go_num, (hbel.alloc (by omega) _).trans ((below_regrown _ dq osq).mono (by simp; omega)), fun j hj => by
                by_cases e : j = k
                · subst e; rw [HG.out, e1, e2, e3]; rfl
                · exact HN.out j (by omega)⟩
              case measure => simp [intOf]; omega
            | false =>
              go_wp2
              refine wp_region_quiet_below Tryd.mixed (by kernel_rfl) ?_
              repeat (go_big_quiet_step (first | (go_at_call 12; exact regrown_same (key_any _ _ hz.1)) | (go_at_call 39; exact Calls.regrown_of (find_n (m.heads.take k) k (by simp; omega) _ _ _ _ (hh _ _))) | (go_at_call 40; exact regrown_same (line_any _ _ hz.2))))
              refine wpQuiet_nil ?_
              intro _ hw'
              obtain ⟨⟨dq, osq⟩, hw''⟩ := hw'
              subst hw''
              go_wp2
              go_ret
              exact ⟨ret_int (by rw [← HR.out, okHs_false k hlt (by rw [HG.out, e3]; simp)]; rfl), (bw.alloc (by omega) _).trans ((below_regrown _ dq osq).mono (by simp; omega))⟩
          · have hj0 : (0 : Int) ≤ (j : Int) := by omega
            go_wp2
            refine wp_region_quiet_below Tryd.mixed (by kernel_rfl) ?_
            repeat (go_big_quiet_step (first | (go_at_call 12; exact regrown_same (key_any _ _ hz.1)) | (go_at_call 39; exact Calls.regrown_of (find_n (m.heads.take k) k (by simp; omega) _ _ _ _ (hh _ _))) | (go_at_call 40; exact regrown_same (line_any _ _ hz.2))))
            refine wpQuiet_nil ?_
            intro _ hw'
            obtain ⟨⟨dq, osq⟩, hw''⟩ := hw'
            subst hw''
            go_wp2
            go_ret
            exact ⟨ret_int (by rw [← HR.out, okHs_false k hlt (by rw [HG.out, e2, decide_eq_false (by omega)]; simp)]; rfl), (bw.alloc (by omega) _).trans ((below_regrown _ dq osq).mono (by simp; omega))⟩
        | false =>
          go_wp2
          refine wp_region_quiet_below Tryd.mixed (by kernel_rfl) ?_
          repeat (go_big_quiet_step (first | (go_at_call 12; exact regrown_same (key_any _ _ hz.1)) | (go_at_call 39; exact Calls.regrown_of (find_n (m.heads.take k) k (by simp; omega) _ _ _ _ (hh _ _))) | (go_at_call 40; exact regrown_same (line_any _ _ hz.2))))
          refine wpQuiet_nil ?_
          intro _ hw'
          obtain ⟨⟨dq, osq⟩, hw''⟩ := hw'
          subst hw''
          go_wp2
          go_ret
          exact ⟨ret_int (by rw [← HR.out, okHs_false k hlt (by rw [HG.out, e1]; rfl)]; rfl), (bw.alloc (by omega) _).trans ((below_regrown _ dq osq).mono (by simp; omega))⟩
      · go_wp2
        go_ret
        exact ⟨ret_int (by rw [← HR.out, okHs_true (fun j hj => HN.out j (by omega))]; rfl), bw⟩
  · go_enter Tryd.func10, Tryd.ntmps10
    go_wp2_with fail
    go_loopw [51] (fun i wr => ∃ k : Nat, k ≤ m.heads.length ∧ i = .int .i64 k ∧ Below (w.heap.size + 1) (w.alloc (.cells #[.int .i64 m.st, .string m.path, .slice ao m.heads.length c, .slice bo m.body.size d] 25)) wr ∧ Hid (∀ j, j < k → goodAt m.heads j = true)) (fun i _ => m.heads.length - (intOf i).toNat)
    case atStart => exact ⟨0, by omega, rfl, Below.refl _ _, fun _ h => absurd h (by omega)⟩
    case round =>
      obtain ⟨k, hk, rfl, hbel, HN⟩ := hrel
      have bw : Below w.heap.size w wr := ((Below.refl _ _).alloc (Nat.le_refl _) _).trans (hbel.mono (by omega))
      by_cases hlt : k < m.heads.length
      · obtain ⟨b, off, rfl, hb, c0, c1⟩ := a1.lies k hlt
        have hlt' : (k : Int) < (m.heads.length : Int) := by omega
        rw [← bw.cell (p := ⟨b, off + k * 2, none⟩) (by simpa using hb)] at c0
        rw [← bw.cell (p := ⟨b, off + k * 2 + 1, none⟩) (by simpa using hb)] at c1
        have hbx := fun j => hbel.cell (p := ⟨w.heap.size, j, none⟩) (by show w.heap.size < _; omega)
        have hsz := hbel.size
        simp at hsz
        have hz := a1.size m.heads[k] (List.getElem_mem hlt)
        have g0 : ∀ d os, (Sort.grow (redrawn (wr.alloc (.cells #[.string m.heads[k].1, .string m.heads[k].2] 52)) d) os).cell? ⟨wr.heap.size, 0, none⟩ = some (.string m.heads[k].1) := fun d os => cell_regrown (by simp) d os
        have g1 : ∀ d os, (Sort.grow (redrawn (wr.alloc (.cells #[.string m.heads[k].1, .string m.heads[k].2] 52)) d) os).cell? ⟨wr.heap.size, 1, none⟩ = some (.string m.heads[k].2) := fun d os => cell_regrown (by simp) d os
        have g2 : ∀ d' os, (Sort.grow (redrawn (wr.alloc (.cells #[.string m.heads[k].1, .string m.heads[k].2] 52)) d') os).cell? ⟨w.heap.size, 2, none⟩ = some (.slice (some ⟨b, off, none⟩) m.heads.length c) := fun d os => cell_regrown (by rw [((Below.refl _ wr).alloc (Nat.le_refl _) _).cell (p := ⟨w.heap.size, 2, none⟩) (by show w.heap.size < _; omega), hbx]; simp) d os
        have hh : ∀ d os, HeadsAt (Sort.grow (redrawn (wr.alloc (.cells #[.string m.heads[k].1, .string m.heads[k].2] 52)) d) os) (some ⟨b, off, none⟩) (m.heads.take k) := fun d os => (a1.take k).below (Nat.le_refl _) ((bw.alloc (by omega) _).trans ((below_regrown _ d os).mono (by simp; omega)))
        have hkc : (k : Int) ≤ (c : Int) := by omega
        have HG : Hid (goodAt m.heads k = (keyB m.heads[k].1 && (decide (fndI m.heads[k].1 (m.heads.take k) < 0) && linB m.heads[k].2))) := by
          show goodAt m.heads k = _
          rw [goodAt, List.getElem?_eq_getElem hlt]
        cases e1 : keyB m.heads[k].1 with
        | true =>
          rcases fnd_cases m.heads[k].1 (m.heads.take k) with ⟨e2, _⟩ | ⟨j, _, e2, _, _⟩
          · cases e3 : linB m.heads[k].2 with
            | true =>
              go_wp2
              refine wp_region_quiet_below Tryd.mixed (by kernel_rfl) ?_
              repeat (go_big_quiet_step (first | (go_at_call 12; exact regrown_same (key_any _ _ hz.1)) | (go_at_call 39; exact Calls.regrown_of (find_n (m.heads.take k) k (by simp; omega) _ _ _ _ (hh _ _))) | (go_at_call 40; exact regrown_same (line_any _ _ hz.2))))
              refine wpQuiet_nil ?_
              intro _ hw'
              obtain ⟨⟨dq, osq⟩, hw''⟩ := hw'
              subst hw''
              go_wp2
              go_roundw
              case rel => exact ⟨k + 1, by omega, by go_num, (hbel.alloc (by omega) _).trans ((below_regrown _ dq osq).mono (by simp; omega)), fun j hj => by
                by_cases e : j = k
                · subst e; rw [HG.out, e1, e2, e3]; rfl
                · exact HN.out j (by omega)⟩
              case measure => simp [intOf]; omega
            | false =>
              go_wp2
              refine wp_region_quiet_below Tryd.mixed (by kernel_rfl) ?_
              repeat (go_big_quiet_step (first | (go_at_call 12; exact regrown_same (key_any _ _ hz.1)) | (go_at_call 39; exact Calls.regrown_of (find_n (m.heads.take k) k (by simp; omega) _ _ _ _ (hh _ _))) | (go_at_call 40; exact regrown_same (line_any _ _ hz.2))))
              refine wpQuiet_nil ?_
              intro _ hw'
              obtain ⟨⟨dq, osq⟩, hw''⟩ := hw'
              subst hw''
              go_wp2
              go_ret
              exact ⟨ret_int (by rw [← HR.out, okHs_false k hlt (by rw [HG.out, e3]; simp)]; rfl), (bw.alloc (by omega) _).trans ((below_regrown _ dq osq).mono (by simp; omega))⟩
          · have hj0 : (0 : Int) ≤ (j : Int) := by omega
            go_wp2
            refine wp_region_quiet_below Tryd.mixed (by kernel_rfl) ?_
            repeat (go_big_quiet_step (first | (go_at_call 12; exact regrown_same (key_any _ _ hz.1)) | (go_at_call 39; exact Calls.regrown_of (find_n (m.heads.take k) k (by simp; omega) _ _ _ _ (hh _ _))) | (go_at_call 40; exact regrown_same (line_any _ _ hz.2))))
            refine wpQuiet_nil ?_
            intro _ hw'
            obtain ⟨⟨dq, osq⟩, hw''⟩ := hw'
            subst hw''
            go_wp2
            go_ret
            exact ⟨ret_int (by rw [← HR.out, okHs_false k hlt (by rw [HG.out, e2, decide_eq_false (by omega)]; simp)]; rfl), (bw.alloc (by omega) _).trans ((below_regrown _ dq osq).mono (by simp; omega))⟩
        | false =>
          go_wp2
          refine wp_region_quiet_below Tryd.mixed (by kernel_rfl) ?_
          repeat (go_big_quiet_step (first | (go_at_call 12; exact regrown_same (key_any _ _ hz.1)) | (go_at_call 39; exact Calls.regrown_of (find_n (m.heads.take k) k (by simp; omega) _ _ _ _ (hh _ _))) | (go_at_call 40; exact regrown_same (line_any _ _ hz.2))))
          refine wpQuiet_nil ?_
          intro _ hw'
          obtain ⟨⟨dq, osq⟩, hw''⟩ := hw'
          subst hw''
          go_wp2
          go_ret
          exact ⟨ret_int (by rw [← HR.out, okHs_false k hlt (by rw [HG.out, e1]; rfl)]; rfl), (bw.alloc (by omega) _).trans ((below_regrown _ dq osq).mono (by simp; omega))⟩
      · go_wp2
        go_ret
        exact ⟨ret_int (by rw [← HR.out, okHs_true (fun j hj => HN.out j (by omega))]; rfl), bw⟩

end Go.Proofs.YtlkfkhpokkjkpaaDoor
