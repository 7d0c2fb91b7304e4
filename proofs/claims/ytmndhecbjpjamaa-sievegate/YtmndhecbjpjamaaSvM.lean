/- What the rows hand to the walks: messages and filters that came in. -/
import Derived.Test.YtmndhecbjpjamaaMsgK
import Derived.ProofKit
import Derived.OpenShut
import Derived.ShutString
import Derived.SizedLaws
import Derived.Deep.SlicePairs
import Derived.Deep.DeepHandedRow
import Derived.Deep.DeepWitnessRowRef
import Derived.Lib.SmallJoins
import Derived.LaidMore
namespace Go.Proofs.Ytmndhecbjpjamaa
open Go.ChangeShapes Go.WideShapes Go.ChangeAt Go.RowKit

theorem own : ownKnob Try.prog.godebug = none := by kernel_rfl
theorem laidOut : laidOutB Try.prog = true := by kernel_rfl
theorem Try.cells25 : Try.prog.cellsOf 27 = 4 := by kernel_rfl
theorem Try.cells45 : Try.prog.cellsOf 53 = 2 := by kernel_rfl
theorem Try.bytes45 : Try.prog.bytesOf 53 = 32 := by kernel_rfl
theorem Try.bytes5 : Try.prog.bytesOf 5 = 1 := by kernel_rfl

theorem spot_none {w : World} {a : Addr} {v : Value} (h : w.cell? a = some v) : a.spot = none := World.cell?_spot h

/-- A slice of heads that came in. -/
theorem heads_open {H : Type} {enc : TypeId × Value → H} {W : World} {fuel : Nat} {v : Value} {x : DataW H × List MemPlace} (h : DataW.trod enc Try.prog W 0 (fun _ => true) true fuel 24 [v] = some x) (hsz : ∀ n ∈ x.1.weights Try.prog 24, n ≤ reachBytes) :
    ∃ ao c, ∃ hs : List Hd, v = .slice ao hs.length c ∧ HeadsAt W ao hs ∧ (ao = none → c = 0) ∧ hs.length ≤ c ∧ c ≤ maxLen ∧ hs.length * 32 ≤ 140737488351232 := by
  rcases Deep.open_slice_pairs Try.underlying24 Try.underlying53 Try.cells45 rfl rfl (by kernel_rfl) (by kernel_rfl) h with ⟨hcs, _⟩ | ⟨a, len, cap, m, n, V0, V1, D0, D1, P0, P1, hcs, _, hl, hm, hmm, hx, hel⟩
  · obtain rfl : v = .slice none 0 0 := by simpa using hcs
    exact ⟨none, 0, [], rfl, ⟨fun i h => absurd h (by simp), by simp, fun h hh => absurd hh (by simp)⟩, fun _ => rfl, by simp, by unfold maxLen; omega, by simp⟩
  · obtain rfl : v = .slice (some a) len cap := by simpa using hcs
    have hmc : m = cap := by simpa using hmm
    subst hmc
    have each : ∀ i, ∃ p : Hd, i < m → W.cell? (a.add (i * 2)) = some (.string p.1) ∧ W.cell? (a.add (i * 2 + 1)) = some (.string p.2) ∧ p.1.size ≤ maxLen ∧ p.2.size ≤ maxLen := by
      intro i
      by_cases hi : i < m
      · obtain ⟨e0, e1, r0, r1⟩ := hel i hi
        obtain ⟨s0, q0, _, k0⟩ := DataW.trod_string Try.underlying9 r0
        obtain ⟨s1, q1, _, k1⟩ := DataW.trod_string Try.underlying9 r1
        have q0' : V0 i = .string s0 := by simpa using q0
        have q1' : V1 i = .string s1 := by simpa using q1
        exact ⟨(s0, s1), fun _ => ⟨by rw [e0, q0'], by rw [e1, q1'], k0, k1⟩⟩
      · exact ⟨(ByteArray.empty, ByteArray.empty), fun h => absurd h hi⟩
    obtain ⟨f, hf⟩ := Classical.axiomOfChoice each
    have hlen : ((List.range len).map f).length = len := by simp
    refine ⟨some a, m, (List.range len).map f, by rw [hlen], ⟨?_, ?_, ?_⟩, (fun e => by cases e), by rw [hlen]; exact hl, hm, ?_⟩
    · intro i hi
      have hi' : i < len := by simpa using hi
      obtain ⟨e0, e1, _, _⟩ := hf i (by omega)
      have hsp : a.spot = none := by
        have := spot_none (hf 0 (by omega)).1
        simpa [Addr.add] using this
      obtain ⟨b, off, spot⟩ := a
      obtain rfl : spot = none := hsp
      rw [add_none] at e0 e1
      refine ⟨b, off, rfl, block_lt_of_cell e0, by simpa using e0, ?_⟩
      rw [Nat.add_assoc]; simpa using e1
    · rw [hlen]; omega
    · intro h hh
      obtain ⟨i, hi, rfl⟩ := List.mem_map.1 hh
      have := hf i (by have := List.mem_range.1 hi; omega)
      exact ⟨this.2.2.1, this.2.2.2⟩
    · have := hsz ((len + (m - len)) * 32) (by
        rw [hx]
        simp only [DataW.weights, Try.underlying24, List.length_map, List.length_range, Try.bytes45]
        exact List.mem_cons_self ..)
      rw [hlen]
      have e : reachBytes = 140737488351232 := rfl
      omega

/-- A slice of bytes that came in. -/
theorem bytes_open {H : Type} {enc : TypeId × Value → H} {W : World} {fuel : Nat} {v : Value} {x : DataW H × List MemPlace} (h : DataW.trod enc Try.prog W 0 (fun _ => true) true fuel 25 [v] = some x) (hsz : ∀ n ∈ x.1.weights Try.prog 25, n ≤ reachBytes) :
    ∃ ao c, ∃ bs : ByteArray, v = .slice ao bs.size c ∧ BytesAt W ao bs ∧ (ao = none → c = 0) ∧ bs.size ≤ 140737488351232 := by
  rcases open_ints Try.underlying25 Try.underlying5 (by kernel_rfl) h with ⟨hcs, _⟩ | ⟨a, len, cap, zs, hcs, _, hl, hm, hz, hx, hcell, hwz⟩
  · obtain rfl : v = .slice none 0 0 := by simpa using hcs
    exact ⟨none, 0, ByteArray.empty, rfl, ⟨fun i h => absurd h (by simp), .inl rfl, by simp⟩, fun _ => rfl, by simp⟩
  · obtain rfl : v = .slice (some a) len cap := by simpa using hcs
    have hzl : zs.length = cap := by simpa using hz
    have hbl : (strOfNums (zs.take len)).size = len := by rw [strOfNums_size, List.length_take]; omega
    have hsp : 0 < len → a.spot = none := by
      intro h0
      have := spot_none (hcell 0 (by omega))
      simpa [Addr.add] using this
    have hnum : ∀ i, i < len → (zs.getD i 0).toNat < 256 ∧ 0 ≤ zs.getD i 0 := by
      intro i hi
      have hm' : zs.getD i 0 ∈ zs := by
        rw [List.getD_eq_getElem?_getD, List.getElem?_eq_getElem (by omega)]
        exact List.getElem_mem _
      have := hwz _ hm'
      clear hm'
      generalize zs.getD i 0 = z at this ⊢
      have e1 : IntKind.u8.min = 0 := rfl
      have e2 : IntKind.u8.max = 255 := rfl
      simp [Lit.wf, e1, e2] at this
      omega
    refine ⟨some a, cap, strOfNums (zs.take len), by rw [hbl], ⟨?_, ?_, ?_⟩, (fun e => by cases e), ?_⟩
    · intro i hi
      have hi' : i < len := by omega
      obtain ⟨b, off, spot⟩ := a
      obtain rfl : spot = none := hsp (by omega)
      have hc := hcell i (by omega)
      rw [add_none] at hc
      refine ⟨b, off, rfl, block_lt_of_cell hc, ?_⟩
      rw [hc]
      congr 2
      have hh := hnum i hi'
      have hg : (strOfNums (zs.take len))[i] = UInt8.ofNat (zs.getD i 0).toNat := by
        have : (strOfNums (zs.take len)).data.toList[i]? = some (UInt8.ofNat (zs.getD i 0).toNat) := by
          rw [strOfNums_data, List.getElem?_map, List.getElem?_take, if_pos hi', List.getD_eq_getElem?_getD, List.getElem?_eq_getElem (by omega)]
          rfl
        have h2 : (strOfNums (zs.take len)).data.toList[i]? = some (strOfNums (zs.take len))[i] := by
          rw [List.getElem?_eq_getElem (by simpa using hi)]; rfl
        rw [h2] at this
        exact Option.some.inj this
      rw [hg]
      have : (UInt8.ofNat (zs.getD i 0).toNat).toNat = (zs.getD i 0).toNat := by
        rw [UInt8.toNat_ofNat']; omega
      rw [this]; omega
    · rcases Nat.eq_zero_or_pos len with h0 | h0
      · right; right; rw [hbl]; exact h0
      · right; left
        obtain ⟨b, off, spot⟩ := a
        obtain rfl : spot = none := hsp h0
        exact ⟨b, off, rfl⟩
    · rw [hbl]; omega
    · have := hsz ((len + (cap - len)) * 1) (by
        rw [hx]
        simp only [DataW.weights, Try.underlying25, Try.bytes5, lits, List.length_map, List.length_take, List.length_drop, hzl, Nat.min_eq_left hl]
        exact List.mem_cons_self ..)
      rw [hbl]
      have e : reachBytes = 140737488351232 := rfl
      omega

set_option maxRecDepth 100000 in
/-- A message that came in. -/
theorem msg_open {H : Type} {enc : TypeId × Value → H} {W : World} {base : Nat} {v : Value} {d : DataW H} {p : List MemPlace} (hv : Value.okWide Try.prog W .any base 27 v) (h : DataW.Trod enc Try.prog W 0 (fun _ => true) true 27 v d p) (hsz : ∀ n ∈ d.weights Try.prog 27, n ≤ reachBytes) : ∃ m, MsAt W v m := by
  obtain ⟨v0, v1, v2, v3, y0, y1, y2, y3, n, rfl, rfl, rfl, h0, h1, h2, h3⟩ := Joins.open_agg4 Try.underlying27 (by kernel_rfl) Try.cells25 hv h
  obtain ⟨st, e0, _, _⟩ := DataW.trod_int Try.underlying3 h0
  obtain ⟨s, e1, _, hs⟩ := DataW.trod_string Try.underlying9 h1
  have hw : ∀ k ∈ y2.1.weights Try.prog 24 ++ y3.1.weights Try.prog 25, k ≤ reachBytes := by
    intro k hk
    apply hsz k
    simp only [DataW.weights, Try.underlying27]
    simp only [List.map_cons, List.map_nil, DataW.weightsEach, List.mem_append] at hk ⊢
    rcases hk with hk | hk
    · exact .inr (.inr (.inl hk))
    · exact .inr (.inr (.inr (.inl hk)))
  obtain ⟨ao, c, hs', rfl, a1, a2, a3, a4, a5⟩ := heads_open h2 fun k hk => hw k (List.mem_append.2 (.inl hk))
  obtain ⟨bo, d', bs, rfl, b1, b2, b3⟩ := bytes_open h3 fun k hk => hw k (List.mem_append.2 (.inr hk))
  have e0' : v0 = .int .i64 st := by simpa using e0
  have e1' : v1 = .string s := by simpa using e1
  subst e0' e1'
  exact ⟨⟨st, s, hs', bs⟩, ⟨ao, c, bo, d', rfl, a1, b1, a2, b2, a3, a4⟩, hs, a5, b3⟩

theorem Try.cells23 : Try.prog.cellsOf 23 = 4 := by kernel_rfl
set_option maxRecDepth 100000 in
/-- A filter that came in. -/
theorem sieve_open {H : Type} {enc : TypeId × Value → H} {W : World} {base : Nat} {v : Value} {d : DataW H} {p : List MemPlace} (hv : Value.okWide Try.prog W .any base 23 v) (h : DataW.Trod enc Try.prog W 0 (fun _ => true) true 23 v d p) :
    ∃ (k n : Int) (key text : ByteArray), v = .agg #[.int .i64 k, .int .i64 n, .string key, .string text] ∧ key.size ≤ maxLen ∧ text.size ≤ maxLen := by
  obtain ⟨v0, v1, v2, v3, y0, y1, y2, y3, n, rfl, rfl, rfl, h0, h1, h2, h3⟩ := Joins.open_agg4 Try.underlying23 (by kernel_rfl) Try.cells23 hv h
  obtain ⟨k, e0, _, _⟩ := DataW.trod_int Try.underlying3 h0
  obtain ⟨n', e1, _, _⟩ := DataW.trod_int Try.underlying3 h1
  obtain ⟨key, e2, _, hk⟩ := DataW.trod_string Try.underlying9 h2
  obtain ⟨text, e3, _, ht⟩ := DataW.trod_string Try.underlying9 h3
  have e0' : v0 = .int .i64 k := by simpa using e0
  have e1' : v1 = .int .i64 n' := by simpa using e1
  have e2' : v2 = .string key := by simpa using e2
  have e3' : v3 = .string text := by simpa using e3
  subst e0' e1' e2' e3'
  exact ⟨k, n', key, text, rfl, hk, ht⟩
end Go.Proofs.Ytmndhecbjpjamaa
