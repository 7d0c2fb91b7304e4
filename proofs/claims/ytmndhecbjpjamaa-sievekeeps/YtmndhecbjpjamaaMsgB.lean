/- Walks of find, Get over heads that lie in memory. -/
import Derived.Test.YtmndhecbjpjamaaMsgA
namespace Go.Proofs.Ytmndhecbjpjamaa
open Go.RowKit

/-- Heads as two strings each. -/
abbrev Hd := ByteArray × ByteArray

/-- A slice of heads, as it lies in a world: its address, and its elements. -/
structure HeadsAt (w : World) (ao : Option Addr) (hs : List Hd) : Prop where
  lies : ∀ i (h : i < hs.length), ∃ b off, ao = some ⟨b, off, none⟩ ∧ b < w.heap.size ∧ w.cell? ⟨b, off + i * 2, none⟩ = some (.string hs[i].1) ∧ w.cell? ⟨b, off + i * 2 + 1, none⟩ = some (.string hs[i].2)
  small : hs.length ≤ maxLen
  size : ∀ h ∈ hs, h.1.size ≤ maxLen ∧ h.2.size ≤ maxLen

theorem HeadsAt.below {w w' : World} {B : Nat} {ao : Option Addr} {hs : List Hd} (h : HeadsAt w ao hs) (hB : w.heap.size ≤ B) (hb : Below B w w') : HeadsAt w' ao hs where
  lies i hi := by
    obtain ⟨b, off, h1, h2, h3, h4⟩ := h.lies i hi
    have hsz := hb.size
    exact ⟨b, off, h1, by omega, by rw [hb.cell (p := ⟨b, off + i * 2, none⟩) (by simp; omega)]; exact h3, by rw [hb.cell (p := ⟨b, off + i * 2 + 1, none⟩) (by simp; omega)]; exact h4⟩
  small := h.small
  size := h.size

theorem bytes_eq {a b : ByteArray} (h : a.toList = b.toList) : a = b := by
  rw [toList_eq, toList_eq] at h
  exact WideShapes.bytes_inj h

/-- The place of the first head with that key, or -1. -/
def fndI (key : ByteArray) : List Hd → Int
  | [] => -1
  | h :: t => if h.1 = key then 0 else if fndI key t = -1 then -1 else fndI key t + 1

theorem fnd_none {key : ByteArray} : ∀ {hs : List Hd}, (∀ i (h : i < hs.length), hs[i].1 ≠ key) → fndI key hs = -1
  | [], _ => rfl
  | h :: t, H => by
    have h0 : h.1 ≠ key := H 0 (by simp)
    have ht : fndI key t = -1 := fnd_none fun i hi => H (i + 1) (by simpa using hi)
    simp [fndI, h0, ht]
theorem fnd_some {key : ByteArray} : ∀ {hs : List Hd} (k : Nat) (hk : k < hs.length), hs[k].1 = key → (∀ i (h : i < hs.length), i < k → hs[i].1 ≠ key) → fndI key hs = k
  | [], _, hk, _, _ => absurd hk (by simp)
  | h :: t, 0, _, he, _ => by
    have h0 : h.1 = key := he
    simp [fndI, h0]
  | h :: t, k + 1, hk, he, H => by
    have h0 : h.1 ≠ key := H 0 (by simp) (by omega)
    have ht : fndI key t = k := fnd_some k (by simpa using hk) (by simpa using he) fun i hi hik => H (i + 1) (by simpa using hi) (by omega)
    have hne : ¬ ((k : Int) = -1) := by omega
    simp [fndI, h0, ht, hne]
theorem fnd_cases (key : ByteArray) : ∀ hs : List Hd, (fndI key hs = -1 ∧ ∀ i (h : i < hs.length), hs[i].1 ≠ key) ∨ ∃ (k : Nat) (hk : k < hs.length), fndI key hs = k ∧ hs[k].1 = key ∧ ∀ i (h : i < hs.length), i < k → hs[i].1 ≠ key
  | [] => .inl ⟨rfl, fun i h => absurd h (by simp)⟩
  | h :: t => by
    by_cases e : h.1 = key
    · exact .inr ⟨0, by simp, by simp [fndI, e], e, fun i _ h => absurd h (by omega)⟩
    · rcases fnd_cases key t with ⟨h1, h2⟩ | ⟨k, hk, h1, h2, h3⟩
      · left
        refine ⟨by simp [fndI, e, h1], fun i hi => ?_⟩
        cases i with
        | zero => exact e
        | succ i => exact h2 i (by simpa using hi)
      · right
        have hne : ¬ ((k : Int) = -1) := by omega
        refine ⟨k + 1, by simpa using hk, by simp [fndI, e, h1, hne], by simpa using h2, fun i hi hik => ?_⟩
        cases i with
        | zero => exact e
        | succ i => exact h3 i (by simpa using hi) (by omega)

theorem ret_int {k : IntKind} {a b : Int} (h : a = b) : Ending.returned (.int k a) = .returned (.int k b) := by rw [h]

set_option maxHeartbeats 400000 in
theorem find1_any (k t key : ByteArray) (B : Nat) (w : World) (hB : B < w.heap.size) (hc : w.cell? ⟨B, 0, none⟩ = some (.string key)) :
    Calls Try.prog 53 #[.agg #[.string k, .string t], .pointer (some ⟨B, 0, none⟩)] w fun e w' => e = .returned (.bool (k.toList == key.toList)) ∧ Below w.heap.size w w' := by
  go_enter Try.func53, Try.ntmps53
  go_wp2
  go_ret
  exact ⟨rfl, (Below.refl _ _).alloc (Nat.le_refl _) _⟩

set_option maxHeartbeats 400000 in
theorem index_any (hs : List Hd) (key : ByteArray) (ao : Option Addr) (cap B : Nat) (w : World) (hh : HeadsAt w ao hs) (hB : B < w.heap.size) (hc : w.cell? ⟨B, 0, none⟩ = some (.string key)) :
    Calls Try.prog 52 #[.slice ao hs.length cap, .func (.func 53) #[] #[.pointer (some ⟨B, 0, none⟩)]] w fun e w' => e = .returned (.int .i64 (fndI key hs)) ∧ Below w.heap.size w w' := by
  have hsm := hh.small
  unfold maxLen at hsm
  go_enter Try.func52, Try.ntmps52
  go_wp2
  go_loopw [8] (fun i wr => ∃ k : Nat, k ≤ hs.length ∧ i = .int .i64 k ∧ Below w.heap.size w wr ∧ Hid (∀ i (h : i < hs.length), i < k → hs[i].1 ≠ key)) (fun i _ => hs.length - (intOf i).toNat)
  case atStart => exact ⟨0, by omega, rfl, Below.refl _ _, fun _ _ h => absurd h (by omega)⟩
  case round =>
    obtain ⟨k, hk, rfl, hbel, HN⟩ := hrel
    by_cases hlt : k < hs.length
    · obtain ⟨b, off, rfl, hb, h0, h1⟩ := hh.lies k hlt
      have hlt' : (k : Int) < (hs.length : Int) := by omega
      rw [← hbel.cell (p := ⟨b, off + k * 2, none⟩) (by simpa using hb)] at h0
      rw [← hbel.cell (p := ⟨b, off + k * 2 + 1, none⟩) (by simpa using hb)] at h1
      rw [← hbel.cell (p := ⟨B, 0, none⟩) (by simpa using hB)] at hc
      have hsz := hbel.size
      by_cases hkey : hs[k].1 = key
      · have hkb : (hs[k].1.toList == key.toList) = true := by rw [hkey]; simp
        have HK : Hid (hs[k].1 = key) := hkey
        clear hkey
        go_wp2_with (go_at_call 53; refine (find1_any _ _ key B _ (by omega) hc).mono ?_; rintro e w2 ⟨rfl, hb2⟩)
        go_ret
        exact ⟨ret_int (fnd_some k hlt HK.out HN.out).symm, hbel.trans (hb2.mono hsz)⟩
      · have hkb : (hs[k].1.toList == key.toList) = false := by
          rw [beq_eq_false_iff_ne]; exact fun e => hkey (bytes_eq e)
        have HK : Hid (hs[k].1 ≠ key) := hkey
        clear hkey
        go_wp2_with (go_at_call 53; refine (find1_any _ _ key B _ (by omega) hc).mono ?_; rintro e w2 ⟨rfl, hb2⟩)
        go_roundw
        case rel => exact ⟨k + 1, by omega, by go_num, hbel.trans (hb2.mono hsz), fun i hi hik => by
          by_cases e : i = k
          · subst e; exact HK.out
          · exact HN.out i hi (by omega)⟩
        case measure => simp [intOf]; omega
    · go_wp2
      go_ret
      exact ⟨ret_int (fnd_none fun i hi => HN.out i hi (by omega)).symm, hbel⟩

set_option maxHeartbeats 400000 in
theorem find_any (hs : List Hd) (key : ByteArray) (ao : Option Addr) (cap : Nat) (w : World) (hh : HeadsAt w ao hs) :
    Calls Try.prog 51 #[.slice ao hs.length cap, .string key] w fun e w' => e = .returned (.int .i64 (fndI key hs)) ∧ Below w.heap.size w w' := by
  have hh' : ∀ o, HeadsAt (w.alloc o) ao hs := fun o => hh.below (Nat.le_refl _) ((Below.refl _ _).alloc (Nat.le_refl _) _)
  go_enter Try.func51, Try.ntmps51
  go_wp2_with (go_at_call 52; refine (index_any hs key _ _ _ _ (hh' _) (by simp) (by simp)).mono ?_; rintro e w2 ⟨rfl, hb2⟩)
  go_ret
  exact ⟨rfl, ((Below.refl _ _).alloc (Nat.le_refl _) _).trans (hb2.mono (by simp))⟩

/-- What Get answers. -/
def getS (key : ByteArray) : List Hd → ByteArray
  | [] => ByteArray.empty
  | h :: t => if h.1 = key then h.2 else getS key t
def getB (key : ByteArray) : List Hd → Bool
  | [] => false
  | h :: t => if h.1 = key then true else getB key t
theorem get_none {key : ByteArray} : ∀ {hs : List Hd}, (∀ i (h : i < hs.length), hs[i].1 ≠ key) → getS key hs = ByteArray.empty ∧ getB key hs = false
  | [], _ => ⟨rfl, rfl⟩
  | h :: t, H => by
    have h0 : h.1 ≠ key := H 0 (by simp)
    have ht := get_none (key := key) (hs := t) fun i hi => H (i + 1) (by simpa using hi)
    simp [getS, getB, h0, ht.1, ht.2]
theorem get_some {key : ByteArray} : ∀ {hs : List Hd} (k : Nat) (hk : k < hs.length), hs[k].1 = key → (∀ i (h : i < hs.length), i < k → hs[i].1 ≠ key) → getS key hs = hs[k].2 ∧ getB key hs = true
  | [], _, hk, _, _ => absurd hk (by simp)
  | h :: t, 0, _, he, _ => by
    have h0 : h.1 = key := he
    simp [getS, getB, h0]
  | h :: t, k + 1, hk, he, H => by
    have h0 : h.1 ≠ key := H 0 (by simp) (by omega)
    have ht := get_some (key := key) (hs := t) k (by simpa using hk) (by simpa using he) fun i hi hik => H (i + 1) (by simpa using hi) (by omega)
    simp [getS, getB, h0, ht.1, ht.2]

set_option maxHeartbeats 400000 in
theorem get_any (hs : List Hd) (key p : ByteArray) (st : Int) (ao : Option Addr) (cap : Nat) (bv : Value) (w : World) (hh : HeadsAt w ao hs) :
    Calls Try.prog 56 #[.agg #[.int .i64 st, .string p, .slice ao hs.length cap, bv], .string key] w fun e w' => e = .returned (.tuple #[.string (getS key hs), .bool (getB key hs)]) ∧ Below w.heap.size w w' := by
  have hh' : ∀ o, HeadsAt (w.alloc o) ao hs := fun o => hh.below (Nat.le_refl _) ((Below.refl _ _).alloc (Nat.le_refl _) _)
  rcases fnd_cases key hs with ⟨h1, h2⟩ | ⟨k, hk, h1, h2, h3⟩
  · obtain ⟨g1, g2⟩ := get_none h2
    rw [g1, g2]
    have HF : Hid (fndI key hs = -1) := h1
    clear g1 g2 h1 h2
    go_enter Try.func56, Try.ntmps56
    go_wp2_with (go_at_call 51; refine (find_any hs key _ _ _ (hh' _)).mono ?_; rintro e w2 ⟨rfl, hb2⟩; rw [HF.out])
    go_ret2
    exact ⟨rfl, ((Below.refl _ _).alloc (Nat.le_refl _) _).trans (hb2.mono (by simp))⟩
  · obtain ⟨g1, g2⟩ := get_some k hk h2 h3
    rw [g1, g2]
    have HF : Hid (fndI key hs = k) := h1
    clear g1 g2 h1 h2 h3
    go_enter Try.func56, Try.ntmps56
    go_wp2_with fail
    refine (find_any hs key _ _ _ (hh' _)).mono ?_
    rintro e w2 ⟨rfl, hb2⟩
    rw [HF.out]
    obtain ⟨b, off, rfl, hb, h0, h1⟩ := hh.lies k hk
    have hb3 : Below w.heap.size w w2 := ((Below.refl _ _).alloc (Nat.le_refl _) _).trans (hb2.mono (by simp))
    rw [← hb3.cell (p := ⟨b, off + k * 2, none⟩) (by simpa using hb)] at h0
    rw [← hb3.cell (p := ⟨b, off + k * 2 + 1, none⟩) (by simpa using hb)] at h1
    have hlt' : (k : Int) < (hs.length : Int) := by omega
    have hbox := fun i => hb2.cell (p := ⟨w.heap.size, i, none⟩) (by simp)
    have hsz := hb2.size
    simp at hsz
    go_wp2
    go_ret2
    exact ⟨rfl, hb3⟩
end Go.Proofs.Ytmndhecbjpjamaa
