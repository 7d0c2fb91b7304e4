/- Walks of Cut at one byte, number, first. -/
import Derived.Test.YtlkfkhpokkjkpaaDoorMsgH
import Derived.Lib.IndexLaws
namespace Go.Proofs.YtlkfkhpokkjkpaaDoor
open Go.RowKit

/-- What is ahead of a byte, and behind it. -/
def cutL (c : UInt8) : List UInt8 → List UInt8 × List UInt8 × Bool
  | [] => ([], [], false)
  | b :: t => if b = c then ([], t, true) else (b :: (cutL c t).1, (cutL c t).2.1, (cutL c t).2.2)
theorem cutL_none (c : UInt8) : ∀ l : List UInt8, Lib.indexByte l c = -1 → cutL c l = (l, [], false)
  | [], _ => rfl
  | b :: t, h => by
    by_cases e : b = c
    · simp [Lib.indexByte, e] at h
    · have ht : Lib.indexByte t c = -1 := by
        by_cases e2 : Lib.indexByte t c = -1
        · exact e2
        · simp [Lib.indexByte, e, e2] at h
          have := Lib.indexByte_ge t c
          omega
      simp [cutL, e, cutL_none c t ht]
theorem cutL_some (c : UInt8) : ∀ (l : List UInt8) (k : Nat), Lib.indexByte l c = k → cutL c l = (l.take k, l.drop (k + 1), true) ∧ k < l.length
  | [], k, h => by simp [Lib.indexByte] at h
  | b :: t, k, h => by
    by_cases e : b = c
    · have : k = 0 := by simp [Lib.indexByte, e] at h; omega
      subst this
      simp [cutL, e]
    · by_cases e2 : Lib.indexByte t c = -1
      · simp [Lib.indexByte, e, e2] at h
      · have hge := Lib.indexByte_ge t c
        simp [Lib.indexByte, e, e2] at h
        obtain ⟨j, rfl⟩ : ∃ j, k = j + 1 := ⟨k - 1, by omega⟩
        obtain ⟨h1, h2⟩ := cutL_some c t j (by omega)
        simp [cutL, e, h1, h2]

theorem extract_B (s : ByteArray) (a b : Nat) : s.extract a b = B ((s.data.toList.drop a).take (b - a)) := by
  apply WideShapes.bytes_inj
  rw [B_data, Lib.extract_data]

set_option maxHeartbeats 400000 in
theorem cut_lite (s : ByteArray) (c : UInt8) (w : World) (hs : s.size ≤ 281474976710656) :
    Calls Tryd.prog 68 #[.string s, .string ⟨#[c]⟩] w fun e w' => e = .returned (.tuple #[.string (B (cutL c s.data.toList).1), .string (B (cutL c s.data.toList).2.1), .bool (cutL c s.data.toList).2.2]) ∧ ∃ n, w' = w.drewN n := by
  by_cases h : Lib.indexByte s.data.toList c = -1
  · rw [cutL_none c _ h, B_of]
    have H : Hid (Lib.indexByte s.data.toList c = -1) := h
    clear h
    go_enter Tryd.func68, Tryd.ntmps68
    go_wp2_with (go_at_call 80; refine (Tryd.stringslite_Index_one s c _).mono ?_; rintro e w' ⟨rfl, rfl⟩; rw [H.out])
    go_ret3
    exact ⟨rfl, 0, rfl⟩
  · obtain ⟨k, hk⟩ : ∃ k : Nat, Lib.indexByte s.data.toList c = k := ⟨(Lib.indexByte s.data.toList c).toNat, by have := Lib.indexByte_ge s.data.toList c; omega⟩
    obtain ⟨h1, h2⟩ := cutL_some c _ k hk
    rw [h1]
    have h2' : k < s.size := by simpa using h2
    have hkn : (0 : Int) ≤ (k : Int) := by omega
    have H : Hid (Lib.indexByte s.data.toList c = k) := hk
    clear h hk h1 h2
    go_enter Tryd.func68, Tryd.ntmps68
    go_wp2_with (go_at_call 80; refine (Tryd.stringslite_Index_one s c _).mono ?_; rintro e w' ⟨rfl, rfl⟩; rw [H.out])
    go_quiet (fail)
    go_wp2
    go_ret3
    refine ⟨?_, nq, rfl⟩
    have e1 : s.extract 0 k = B (s.data.toList.take k) := by rw [extract_B]; simp
    have e2 : s.extract (k + 1) s.size = B (s.data.toList.drop (k + 1)) := by
      rw [extract_B, List.take_of_length_le]
      simp
    rw [← e1, ← e2]
    rfl

set_option maxHeartbeats 400000 in
theorem cut_any (s : ByteArray) (c : UInt8) (w : World) (hs : s.size ≤ 281474976710656) :
    Calls Tryd.prog 61 #[.string s, .string ⟨#[c]⟩] w fun e w' => e = .returned (.tuple #[.string (B (cutL c s.data.toList).1), .string (B (cutL c s.data.toList).2.1), .bool (cutL c s.data.toList).2.2]) ∧ ∃ n, w' = w.drewN n := by
  go_enter Tryd.func61, Tryd.ntmps61
  go_wp2_with (go_at_call 68; refine (cut_lite s c _ hs).mono ?_; rintro e w' ⟨rfl, n, rfl⟩)
  go_ret3
  exact ⟨rfl, n, rfl⟩

/-- The package variables of the library that are read. -/
structure Glob (w : World) : Prop where
  tab : GlobT w
  syn : ∃ tp p, w.var? Tryd.prog "strconv.ErrSyntax" = some #[.iface tp p]
  rng : ∃ tp p, w.var? Tryd.prog "strconv.ErrRange" = some #[.iface tp p]
theorem Glob.below {w w' : World} (h : Glob w) (hb : Below w.heap.size w w') : Glob w' := by
  obtain ⟨h1, ⟨t2, p2, h2⟩, ⟨t3, p3, h3⟩⟩ := h
  exact ⟨GlobT.below h1 hb, ⟨t2, p2, Joins.var_stays (by kernel_rfl : Tryd.prog.globalNamed "strconv.ErrSyntax" = some 0) h2 hb (Nat.le_refl _)⟩, ⟨t3, p3, Joins.var_stays (by kernel_rfl : Tryd.prog.globalNamed "strconv.ErrRange" = some 1) h3 hb (Nat.le_refl _)⟩⟩

/-- What number reads. -/
def numL (l : List UInt8) : Option Int :=
  match Lib.atoiAll l with
  | .ok n => if n = 0 then none else if Lib.itoa n = l then some n else none
  | _ => none
def numR (o : Option Int) : Value := match o with | some n => .tuple #[.int .i64 n, .bool true] | none => .tuple #[.int .i64 0, .bool false]

theorem below_bytes (w : World) (t : ByteArray) : Below w.heap.size w (Lib.bytesWorld w 5 t) :=
  ⟨rfl, rfl, rfl, by rw [Lib.bytesWorld_size]; omega, fun k hk => Lib.bytesWorld_at_old w 5 t k hk⟩

set_option maxHeartbeats 1000000 in
theorem number_any (s : ByteArray) (w : World) (hs : s.size ≤ 281474976710656) (hg : Glob w) :
    Calls Tryd.prog 70 #[.string s] w fun e w' => e = .returned (numR (numL s.data.toList)) ∧ Below w.heap.size w w' := by
  cases h : Lib.atoiAll s.data.toList with
  | ok n =>
    have HB : Hid (-9223372036854775808 ≤ n ∧ n ≤ 9223372036854775807) := Lib.atoiAll_bounds h
    have HO : Hid (Lib.atoiAll s.data.toList = .ok n) := h
    have hsz : s.size ≤ 9223372036854775806 := by omega
    have HS : Hid (s.size ≤ 9223372036854775806) := hsz
    by_cases h0 : n = 0
    · have e : numL s.data.toList = none := by simp [numL, h, h0]
      rw [e]
      have q : (n == 0) = true := by simp [h0]
      clear e h hsz h0
      go_enter Tryd.func70, Tryd.ntmps70
      go_wp2_with fail
      refine (Tryd.strconv_Atoi_ok s HS.out n HO.out _).mono ?_
      rintro e w1 ⟨rfl, hw1⟩
      have bl : Below w.heap.size w w1 := by rcases hw1 with rfl | ⟨t, rfl⟩; exact Below.refl _ _; exact below_bytes _ _
      clear hw1
      go_wp2
      go_ret2
      exact ⟨rfl, bl⟩
    · have q : (n == 0) = false := by simp [h0]
      by_cases h1 : Lib.itoa n = s.data.toList
      · have e : numL s.data.toList = some n := by simp [numL, h, h0, h1]
        rw [e]
        have q2 : (Lib.itoa n == s.toList) = true := by rw [toList_eq]; simp [h1]
        clear e h hsz h0 h1
        go_enter Tryd.func70, Tryd.ntmps70
        go_wp2_with fail
        refine (Tryd.strconv_Atoi_ok s HS.out n HO.out _).mono ?_
        rintro e w1 ⟨rfl, hw1⟩
        have bl : Below w.heap.size w w1 := by rcases hw1 with rfl | ⟨t, rfl⟩; exact Below.refl _ _; exact below_bytes _ _
        clear hw1
        go_wp2_with fail
        refine (Tryd.strconv_Itoa n HB.out.1 HB.out.2 _ (hg.below bl).tab).mono ?_
        rintro e w2 ⟨rfl, kk, os, hw2⟩
        have bl2 : Below w1.heap.size w1 w2 := by rw [hw2]; exact below_growN w1 kk os
        clear hw2
        go_wp2
        go_ret2
        exact ⟨rfl, bl.trans (bl2.mono bl.size)⟩
      · have e : numL s.data.toList = none := by simp [numL, h, h0, h1]
        rw [e]
        have q2 : (Lib.itoa n == s.toList) = false := by rw [toList_eq]; simpa using h1
        clear e h hsz h0 h1
        go_enter Tryd.func70, Tryd.ntmps70
        go_wp2_with fail
        refine (Tryd.strconv_Atoi_ok s HS.out n HO.out _).mono ?_
        rintro e w1 ⟨rfl, hw1⟩
        have bl : Below w.heap.size w w1 := by rcases hw1 with rfl | ⟨t, rfl⟩; exact Below.refl _ _; exact below_bytes _ _
        clear hw1
        go_wp2_with fail
        refine (Tryd.strconv_Itoa n HB.out.1 HB.out.2 _ (hg.below bl).tab).mono ?_
        rintro e w2 ⟨rfl, kk, os, hw2⟩
        have bl2 : Below w1.heap.size w1 w2 := by rw [hw2]; exact below_growN w1 kk os
        clear hw2
        go_wp2
        go_ret2
        exact ⟨rfl, bl.trans (bl2.mono bl.size)⟩
  | «syntax» =>
    have e : numL s.data.toList = none := by simp [numL, h]
    rw [e]
    have HO : Hid (Lib.atoiAll s.data.toList = .syntax) := h
    obtain ⟨tp, p, hv⟩ := hg.syn
    have HV : Hid (w.var? Tryd.prog "strconv.ErrSyntax" = some #[.iface tp p]) := hv
    have HS : Hid (s.size ≤ 281474976710656) := hs
    clear e h hv hs
    go_enter Tryd.func70, Tryd.ntmps70
    go_wp2_with fail
    refine (Tryd.strconv_Atoi_syntax_var s HS.out HO.out tp p _ HV.out).mono ?_
    rintro e w1 ⟨N, rfl, _, _, bl⟩
    go_wp2
    go_ret2
    exact ⟨rfl, bl⟩
  | range =>
    have e : numL s.data.toList = none := by simp [numL, h]
    rw [e]
    have HO : Hid (Lib.atoiAll s.data.toList = .range) := h
    obtain ⟨tp, p, hv⟩ := hg.rng
    have HV : Hid (w.var? Tryd.prog "strconv.ErrRange" = some #[.iface tp p]) := hv
    have HS : Hid (s.size ≤ 281474976710656) := hs
    clear e h hv hs
    go_enter Tryd.func70, Tryd.ntmps70
    go_wp2_with fail
    refine (Tryd.strconv_Atoi_range_var s HS.out HO.out tp p _ HV.out).mono ?_
    rintro e w1 ⟨N, rfl, _, _, bl⟩
    go_wp2
    go_ret2
    exact ⟨rfl, bl⟩

/-- What first reads: a status, and a path. -/
def firstL (l : List UInt8) : Option (Int × List UInt8) :=
  if Lib.hasPrefix l [97, 115, 107, 32] then some (0, l.drop 4)
  else if Lib.hasPrefix l [115, 97, 121, 32] then (numL (l.drop 4)).map fun n => (n, [])
  else none
def msgV (st : Int) (p : List UInt8) : Value := .agg #[.int .i64 st, .string (B p), .slice none 0 0, .slice none 0 0]

set_option maxHeartbeats 1000000 in
theorem first_any (s : ByteArray) (w : World) (hs : s.size ≤ 281474976710656) (hg : Glob w) :
    Calls Tryd.prog 62 #[.string s] w fun e w' => e = .returned (match firstL s.data.toList with | some (st, p) => .tuple #[msgV st p, .bool true] | none => .tuple #[msgV 0 [], .bool false]) ∧ Below w.heap.size w w' := by
  have hbw : ∀ o, Below w.heap.size w (w.alloc o) := fun o => (Below.refl _ _).alloc (Nat.le_refl _) o
  have HS : Hid (s.size ≤ 281474976710656) := hs
  clear hs
  have hg' := fun o => hg.below (hbw o)
  cases h1 : Lib.hasPrefix s.data.toList [97, 115, 107, 32] with
  | true =>
    have e : firstL s.data.toList = some (0, s.data.toList.drop 4) := by simp [firstL, h1]
    rw [e]
    have HT : Hid (Lib.trimPrefix s.data.toList [97, 115, 107, 32] = s.data.toList.drop 4) := by show Lib.trimPrefix _ _ = _; simp [Lib.trimPrefix, h1]
    clear e
    go_enter Tryd.func62, Tryd.ntmps62
    go_wp2_with fail
    refine (Tryd.strings_CutPrefix s ⟨#[97, 115, 107, 32]⟩ _).mono ?_
    rintro e w1 ⟨rfl, rfl⟩
    rw [HT.out, h1]
    go_wp2
    exact bodyPost_ret (v := .tuple #[msgV 0 (s.data.toList.drop 4), .bool true]) (by simp [results, Tryd.results62, go_sem, msgV, B]) rfl ⟨rfl, hbw _⟩
  | false =>
    have HT : Hid (Lib.trimPrefix s.data.toList [97, 115, 107, 32] = s.data.toList) := by show Lib.trimPrefix _ _ = _; simp [Lib.trimPrefix, h1]
    cases h2 : Lib.hasPrefix s.data.toList [115, 97, 121, 32] with
    | false =>
      have e : firstL s.data.toList = none := by simp [firstL, h1, h2]
      rw [e]
      have HT2 : Hid (Lib.trimPrefix s.data.toList [115, 97, 121, 32] = s.data.toList) := by show Lib.trimPrefix _ _ = _; simp [Lib.trimPrefix, h2]
      clear e
      go_enter Tryd.func62, Tryd.ntmps62
      go_wp2_with fail
      refine (Tryd.strings_CutPrefix s ⟨#[97, 115, 107, 32]⟩ _).mono ?_
      rintro e w1 ⟨rfl, rfl⟩
      rw [HT.out, h1]
      go_wp2_with fail
      refine (Tryd.strings_CutPrefix s ⟨#[115, 97, 121, 32]⟩ _).mono ?_
      rintro e w1 ⟨rfl, rfl⟩
      rw [HT2.out, h2]
      go_wp2
      exact bodyPost_ret (v := .tuple #[msgV 0 [], .bool false]) (by simp [results, Tryd.results62, go_sem, msgV, B]) rfl ⟨rfl, hbw _⟩
    | true =>
      have HT2 : Hid (Lib.trimPrefix s.data.toList [115, 97, 121, 32] = s.data.toList.drop 4) := by show Lib.trimPrefix _ _ = _; simp [Lib.trimPrefix, h2]
      have HZ : Hid ((B (s.data.toList.drop 4)).size ≤ 281474976710656) := by
        show (B (s.data.toList.drop 4)).size ≤ 281474976710656
        have := HS.out
        rw [B_size, List.length_drop]
        have : s.data.toList.length = s.size := by simp
        omega
      cases h3 : numL (s.data.toList.drop 4) with
      | none =>
        have e : firstL s.data.toList = none := by simp [firstL, h1, h2, h3]
        rw [e]
        have H3 : Hid (numL (s.data.toList.drop 4) = none) := h3
        clear e h3
        go_enter Tryd.func62, Tryd.ntmps62
        go_wp2_with fail
        refine (Tryd.strings_CutPrefix s ⟨#[97, 115, 107, 32]⟩ _).mono ?_
        rintro e w1 ⟨rfl, rfl⟩
        rw [HT.out, h1]
        go_wp2_with fail
        refine (Tryd.strings_CutPrefix s ⟨#[115, 97, 121, 32]⟩ _).mono ?_
        rintro e w1 ⟨rfl, rfl⟩
        rw [HT2.out, h2]
        go_wp2_with fail
        refine (number_any (B (s.data.toList.drop 4)) _ HZ.out (hg' _)).mono ?_
        rintro e w1 ⟨rfl, bl⟩
        rw [B_data, H3.out, numR]
        have hbx := fun j => bl.cell (p := ⟨w.heap.size, j, none⟩) (by simp)
        have hfx := fun j => bl.frozen (p := ⟨w.heap.size, j, none⟩) (by simp)
        have hsz := bl.size
        simp at hsz
        go_wp2
        refine bodyPost_ret (v := .tuple #[msgV 0 [], .bool false]) (by simp [results, Tryd.results62, go_sem, msgV, B, hbx]) rfl ⟨rfl, ?_⟩
        repeat (refine Below.setCell ?_ (by simp) _)
        exact (hbw _).trans (bl.mono (by simp))
      | some n =>
        have e : firstL s.data.toList = some (n, []) := by simp [firstL, h1, h2, h3]
        rw [e]
        have H3 : Hid (numL (s.data.toList.drop 4) = some n) := h3
        clear e h3
        go_enter Tryd.func62, Tryd.ntmps62
        go_wp2_with fail
        refine (Tryd.strings_CutPrefix s ⟨#[97, 115, 107, 32]⟩ _).mono ?_
        rintro e w1 ⟨rfl, rfl⟩
        rw [HT.out, h1]
        go_wp2_with fail
        refine (Tryd.strings_CutPrefix s ⟨#[115, 97, 121, 32]⟩ _).mono ?_
        rintro e w1 ⟨rfl, rfl⟩
        rw [HT2.out, h2]
        go_wp2_with fail
        refine (number_any (B (s.data.toList.drop 4)) _ HZ.out (hg' _)).mono ?_
        rintro e w1 ⟨rfl, bl⟩
        rw [B_data, H3.out, numR]
        have hbx := fun j => bl.cell (p := ⟨w.heap.size, j, none⟩) (by simp)
        have hfx := fun j => bl.frozen (p := ⟨w.heap.size, j, none⟩) (by simp)
        have hsz := bl.size
        simp at hsz
        go_wp2
        refine bodyPost_ret (v := .tuple #[msgV n [], .bool true]) (by simp [results, Tryd.results62, go_sem, msgV, B, hbx]) rfl ⟨rfl, ?_⟩
        repeat (refine Below.setCell ?_ (by simp) _)
        exact (hbw _).trans (bl.mono (by simp))
end Go.Proofs.YtlkfkhpokkjkpaaDoor
