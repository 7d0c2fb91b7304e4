/- Walks of Wrong. -/
import Derived.Test.YtmndhecbjpjamaaMsgE
import Derived.Lib.QuietBelow
namespace Go.Proofs.Ytmndhecbjpjamaa
open Go.RowKit

theorem HeadsAt.take {w : World} {ao : Option Addr} {hs : List Hd} (h : HeadsAt w ao hs) (k : Nat) : HeadsAt w ao (hs.take k) where
  lies i hi := by
    have hi' : i < hs.length := by simp at hi; omega
    obtain ⟨b, off, h1, h2, h3, h4⟩ := h.lies i hi'
    exact ⟨b, off, h1, h2, by simpa using h3, by simpa using h4⟩
  small := by have := h.small; simp; omega
  size h' hh := h.size h' (List.mem_of_mem_take hh)

/-- A head that may stand at its place. -/
def goodAt (hs : List Hd) (i : Nat) : Bool :=
  match hs[i]? with
  | none => true
  | some h => keyB h.1 && (decide (fndI h.1 (hs.take i) < 0) && linB h.2)
def okHs (hs : List Hd) : Bool := (List.range hs.length).all (goodAt hs)
theorem okHs_true {hs : List Hd} (h : ∀ i, i < hs.length → goodAt hs i = true) : okHs hs = true := by
  unfold okHs; rw [List.all_eq_true]; exact fun i hi => h i (List.mem_range.1 hi)
theorem okHs_false {hs : List Hd} (i : Nat) (hi : i < hs.length) (h : goodAt hs i = false) : okHs hs = false := by
  unfold okHs; rw [List.all_eq_false]; exact ⟨i, List.mem_range.2 hi, by simp [h]⟩

/-- What Wrong tells. -/
def wrongE (m : Ms) : Int :=
  if m.st ≠ 0 ∧ (m.st < 100 ∨ 599 < m.st) then 3
  else if m.st = 0 ∧ pthB m.path = false then 2
  else if m.st ≠ 0 ∧ m.path.toList ≠ [] then 2
  else if 6 < m.heads.length then 5
  else if 40 < m.body.size then 4
  else if okHs m.heads then 0 else 7

/-- A callee that leaves the world alone, met in a world of the class. -/
theorem regrown_same {P : Program} {f : FuncId} {args : Array Value} {w : World} {d : Nat} {os : Array Obj} {v : Value}
    (h : Calls P f args (Sort.grow (redrawn w d) os) fun e w' => e = .returned v ∧ w' = Sort.grow (redrawn w d) os) : Calls P f args (Sort.grow (redrawn w d) os) fun e w'' => e = .returned v ∧ ∃ p : Regrown, w'' = Sort.grow (redrawn w p.d) p.os :=
  h.mono fun _ _ ⟨he, hb⟩ => ⟨he, ⟨d, os⟩, hb⟩

theorem find_n (hs : List Hd) (n : Nat) (hn : hs.length = n) (key : ByteArray) (ao : Option Addr) (cap : Nat) (w : World) (hh : HeadsAt w ao hs) :
    Calls Try.prog 51 #[.slice ao n cap, .string key] w fun e w' => e = .returned (.int .i64 (fndI key hs)) ∧ Below w.heap.size w w' := by
  subst hn; exact find_any hs key ao cap w hh
theorem Try.mixed : Try.prog.follows .mixedOrders = true := by kernel_rfl

end Go.Proofs.Ytmndhecbjpjamaa
