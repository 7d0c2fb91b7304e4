/- What the document's own Parse reads, and what Parse reads: the same. -/
import Derived.Test.YtlkfkhpokkjkpaaDoorMsgU
namespace Go.Proofs.YtlkfkhpokkjkpaaDoor
open Go.RowKit

/-- What the lines behind the first one are, however many. -/
def rreadH : Nat → List UInt8 → List Hd → Option (List Hd × List UInt8)
  | 0, _, _ => none
  | f + 1, rest, hs =>
    if (cutL 10 rest).2.2 = false then none
    else if (cutL 10 rest).1 = [] then some (hs, (cutL 10 rest).2.1)
    else if (cutL 61 (cutL 10 rest).1).2.2 = false then none
    else rreadH f (cutL 10 rest).2.1 (hs ++ [(B (cutL 61 (cutL 10 rest).1).1, B (cutL 61 (cutL 10 rest).1).2.1)])
theorem rreadH_fuel : ∀ (f g : Nat) (rest : List UInt8) (hs : List Hd), rest.length < f → rest.length < g → rreadH f rest hs = rreadH g rest hs
  | 0, _, _, _, h, _ => absurd h (by omega)
  | _, 0, _, _, _, h => absurd h (by omega)
  | f + 1, g + 1, rest, hs, h1, h2 => by
    unfold rreadH
    by_cases c1 : (cutL 10 rest).2.2 = false
    · rw [if_pos c1, if_pos c1]
    · have hl := (cutL_len 10 rest).2.1 (by simpa using c1)
      rw [if_neg c1, if_neg c1]
      rw [rreadH_fuel f g _ _ (by omega) (by omega)]
def rreadR (rest : List UInt8) (hs : List Hd) : Option (List Hd × List UInt8) := rreadH (rest.length + 1) rest hs
theorem rreadR_eq (rest : List UInt8) (hs : List Hd) : rreadR rest hs =
    if (cutL 10 rest).2.2 = false then none
    else if (cutL 10 rest).1 = [] then some (hs, (cutL 10 rest).2.1)
    else if (cutL 61 (cutL 10 rest).1).2.2 = false then none
    else rreadR (cutL 10 rest).2.1 (hs ++ [(B (cutL 61 (cutL 10 rest).1).1, B (cutL 61 (cutL 10 rest).1).2.1)]) := by
  conv => lhs; unfold rreadR rreadH
  by_cases c1 : (cutL 10 rest).2.2 = false
  · rw [if_pos c1, if_pos c1]
  · have hl := (cutL_len 10 rest).2.1 (by simpa using c1)
    rw [if_neg c1, if_neg c1]
    unfold rreadR
    rw [rreadH_fuel rest.length ((cutL 10 rest).2.1.length + 1) _ _ (by omega) (by omega)]
theorem readH_rread : ∀ (f : Nat) (rest : List UInt8) (hs : List Hd), readH f rest (hs.take 7) = (rreadH f rest hs).map fun x => (x.1.take 7, x.2)
  | 0, _, _ => rfl
  | f + 1, rest, hs => by
    unfold readH rreadH
    by_cases c1 : (cutL 10 rest).2.2 = false
    · rw [if_pos c1, if_pos c1]; rfl
    rw [if_neg c1, if_neg c1]
    by_cases c2 : (cutL 10 rest).1 = []
    · rw [if_pos c2, if_pos c2]; rfl
    rw [if_neg c2, if_neg c2]
    by_cases c3 : (cutL 61 (cutL 10 rest).1).2.2 = false
    · rw [if_pos c3, if_pos c3]; rfl
    rw [if_neg c3, if_neg c3, ← readH_rread f]
    congr 1
    by_cases c4 : hs.length ≤ 6
    · rw [List.take_of_length_le (i := 7) (l := hs) (by omega), if_pos c4, List.take_of_length_le (by simp; omega)]
    · rw [if_neg (by simp; omega), List.take_append_of_le_length (by omega)]
def rreadL (s : List UInt8) : Option Ms :=
  match firstL (cutL 10 s).1 with
  | none => none
  | some (st, p) => if (cutL 10 s).2.2 then (rreadR (cutL 10 s).2.1 []).map fun x => { st := st, path := B p, heads := x.1, body := B x.2 } else none
theorem readL_rread (s : List UInt8) : readL s = (rreadL s).map fun m => { m with heads := m.heads.take 7 } := by
  unfold readL rreadL
  cases firstL (cutL 10 s).1 with
  | none => rfl
  | some q =>
    obtain ⟨st, p⟩ := q
    simp only
    cases (cutL 10 s).2.2 with
    | false => rfl
    | true =>
      have := readH_rread ((cutL 10 s).2.1.length + 1) (cutL 10 s).2.1 []
      simp only [if_true, readR, rreadR]
      rw [List.take_nil] at this
      rw [this]
      cases rreadH ((cutL 10 s).2.1.length + 1) (cutL 10 s).2.1 [] <;> rfl
theorem wrongE_take (m : Ms) : wrongE { m with heads := m.heads.take 7 } = wrongE m := by
  by_cases h : m.heads.length ≤ 6
  · rw [List.take_of_length_le (by omega)]
  · have h1 : 6 < (m.heads.take 7).length := by simp; omega
    have h2 : 6 < m.heads.length := by omega
    unfold wrongE
    simp only [h1, h2, if_true]
theorem parseE_r (s : List UInt8) : parseE s = match rreadL s with | none => 2 | some m => wrongE m := by
  unfold parseE
  rw [readL_rread]
  cases rreadL s with
  | none => rfl
  | some m => exact wrongE_take m
theorem parseM_r (s : List UInt8) : parseM s = match rreadL s with | none => msZero | some m => if wrongE m = 0 then m else msZero := by
  unfold parseM
  rw [readL_rread]
  cases rreadL s with
  | none => rfl
  | some m =>
    show (if wrongE { m with heads := m.heads.take 7 } = 0 then { m with heads := m.heads.take 7 } else msZero) = if wrongE m = 0 then m else msZero
    rw [wrongE_take]
    by_cases h : wrongE m = 0
    · rw [if_pos h, if_pos h, List.take_of_length_le (by have := (right_parts h).1; omega)]
    · rw [if_neg h, if_neg h]
end Go.Proofs.YtlkfkhpokkjkpaaDoor
