/- Walks of the small byte tests of package msg. -/
import Derived.Test.YtbpmcabeghbalaaRows
import Derived.WalkKit
import Derived.WalkSpells
import Derived.WalkLawsBesides
import Derived.Lib.Strings
namespace Go.Proofs.Ytbpmcabeghbalaa
open Go.RowKit

def smallB (c : Int) : Bool := decide (97 ≤ c) && decide (c ≤ 122)
def lineB (c : Int) : Bool := decide (32 ≤ c) && decide (c ≤ 126)
def pathB (c : Int) : Bool := smallB c || (decide (48 ≤ c) && decide (c ≤ 57)) || c == 47
def allB (p : Int → Bool) (s : ByteArray) : Bool := s.data.toList.all fun b => p (b.toNat : Int)

theorem allB_true {p : Int → Bool} {s : ByteArray} (h : ∀ j (hj : j < s.size), p (s[j].toNat : Int) = true) : allB p s = true := by
  unfold allB
  rw [List.all_eq_true]
  intro b hb
  obtain ⟨j, hj, rfl⟩ := List.mem_iff_getElem.1 hb
  exact h j (by simpa using hj)
theorem allB_false {p : Int → Bool} {s : ByteArray} (j : Nat) (hj : j < s.size) (h : p (s[j].toNat : Int) = false) : allB p s = false := by
  unfold allB
  rw [List.all_eq_false]
  exact ⟨s[j], by rw [List.mem_iff_getElem]; exact ⟨j, by simpa using hj, rfl⟩, by rw [h]; simp⟩

theorem ret_bool {a b : Bool} (h : a = b) : Ending.returned (.bool a) = .returned (.bool b) := by rw [h]

theorem toList_eq (s : ByteArray) : s.toList = s.data.toList := by
  exact Lib.toList_data s

def keyB (s : ByteArray) : Bool := decide (s.toList ≠ []) && (decide ((s.size : Int) ≤ 8) && allB smallB s)
def linB (s : ByteArray) : Bool := decide ((s.size : Int) ≤ 20) && allB lineB s
def pthB (s : ByteArray) : Bool := decide (s.toList ≠ []) && ((if h : 0 < s.size then (s[0].toNat : Int) == 47 else false) && (decide ((s.size : Int) ≤ 24) && allB pathB s))

end Go.Proofs.Ytbpmcabeghbalaa
