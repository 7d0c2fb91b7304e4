/- Walks of the document's own answer: Say, Get, Same. -/
import Derived.Test.YtmndhecbjpjamaaMsgP
namespace Go.Proofs.Ytmndhecbjpjamaa
open Go.RowKit

set_option maxHeartbeats 1000000 in
theorem rsay_any (st : Int) (s : ByteArray) (w : World) (hs : s.size ≤ 140737488351232) :
    Calls Try.prog 21 #[.int .i64 st, .string s] w fun e w' => ∃ bo d, e = .returned (.agg #[.int .i64 st, .string ⟨#[]⟩, .slice none 0 0, .slice bo s.size d]) ∧ MsAt w' (.agg #[.int .i64 st, .string ⟨#[]⟩, .slice none 0 0, .slice bo s.size d]) ⟨st, B [], [], s⟩ ∧ From w.heap.size (.agg #[.int .i64 st, .string ⟨#[]⟩, .slice none 0 0, .slice bo s.size d]) ∧ Below w.heap.size w w' := by
  have HS : Hid (s.size ≤ 140737488351232) := hs
  clear hs
  have hcv := Lib.run_convert_string_bytes (P := Try.prog) (w.alloc (.cells #[.int .i64 0, .string ⟨#[]⟩, .slice none 0 0, .slice none 0 0] 27)) 9 25 5 s Try.underlying9 Try.underlying25 Try.underlying5
  obtain ⟨w1, hw1⟩ : ∃ w1, Lib.bytesWorld (w.alloc (.cells #[.int .i64 0, .string ⟨#[]⟩, .slice none 0 0, .slice none 0 0] 27)) 5 s = w1 := ⟨_, rfl⟩
  obtain ⟨cap, hcap⟩ : ∃ cap, grownCap (w.alloc (.cells #[.int .i64 0, .string ⟨#[]⟩, .slice none 0 0, .slice none 0 0] 27)) s.size 0 5 = cap := ⟨_, rfl⟩
  rw [hw1, hcap] at hcv
  have b1 : Below (w.alloc (.cells #[.int .i64 0, .string ⟨#[]⟩, .slice none 0 0, .slice none 0 0] 27)).heap.size (w.alloc (.cells #[.int .i64 0, .string ⟨#[]⟩, .slice none 0 0, .slice none 0 0] 27)) w1 := by rw [← hw1]; exact below_bytes _ _
  have BY : Hid (BytesAt w1 (some ⟨w.heap.size + 1, 0, none⟩) s) := by
    have := bytesAt_new (w.alloc (.cells #[.int .i64 0, .string ⟨#[]⟩, .slice none 0 0, .slice none 0 0] 27)) s (by unfold maxLen; have := HS.out; omega)
    rw [hw1] at this
    show BytesAt _ _ _
    simpa using this
  have hbx := fun j => b1.cell (p := ⟨w.heap.size, j, none⟩) (by simp)
  have hfx := fun j => b1.frozen (p := ⟨w.heap.size, j, none⟩) (by simp)
  simp only [World.size_alloc] at hcv
  have BL : Hid (Below w.heap.size w w1) := ((Below.refl _ _).alloc (Nat.le_refl _) _).trans (b1.mono (by simp))
  clear hw1 hcap b1
  go_enter Try.func21, Try.ntmps21
  go_wp2
  refine bodyPost_ret (v := .agg #[.int .i64 st, .string ⟨#[]⟩, .slice none 0 0, .slice (some ⟨w.heap.size + 1, 0, none⟩) s.size cap]) (by simp [results, Try.results21, go_sem, hbx]) rfl ⟨_, _, rfl, ?_, ⟨_, _, _, _, _, _, _, _, rfl, (fun a e => by cases e), fun a e => ?_⟩, ?_⟩
  · refine ⟨⟨none, 0, some ⟨w.heap.size + 1, 0, none⟩, cap, rfl, ⟨fun i h => absurd h (by simp), by simp, fun h hh => absurd hh (by simp)⟩, ?_, fun _ => rfl, (fun e => by cases e), by simp, by simp⟩, by simp [B_size], by simp, HS.out⟩
    iterate 4 (refine BytesAt.set ?_ _ _ (by intro b off e; simp at e; simp; omega))
    exact BY.out
  · obtain rfl : ⟨w.heap.size + 1, 0, none⟩ = a := Option.some.inj e
    exact Nat.le_succ _
  · iterate 4 (refine Below.setCell ?_ (by simp) _)
    exact BL.out


set_option maxRecDepth 100000 in
set_option maxHeartbeats 1000000 in
theorem rget_any (hs : List Hd) (key p : ByteArray) (st : Int) (ao : Option Addr) (cap : Nat) (bv : Value) (w : World) (hh : HeadsAt w ao hs) :
    Calls Try.prog 20 #[.agg #[.int .i64 st, .string p, .slice ao hs.length cap, bv], .string key] w fun e w' => e = .returned (.tuple #[.string (getS key hs), .bool (getB key hs)]) ∧ Below w.heap.size w w' := by
  have hsm := hh.small
  unfold maxLen at hsm
  have ab : ∀ o, Below w.heap.size w (w.alloc o) := fun o => (Below.refl _ _).alloc (Nat.le_refl _) o
  obtain ⟨gs, hgs⟩ : ∃ gs, getS key hs = gs := ⟨_, rfl⟩
  obtain ⟨gb, hgb⟩ : ∃ gb, getB key hs = gb := ⟨_, rfl⟩
  rw [hgs, hgb]
  have HG : Hid (getS key hs = gs ∧ getB key hs = gb) := ⟨hgs, hgb⟩
  clear hgs hgb
  go_enter Try.func20, Try.ntmps20
  go_wp2
  go_loop [10] (fun i => ∃ k : Nat, k ≤ hs.length ∧ i = .int .i64 k ∧ Hid (∀ i (h : i < hs.length), i < k → hs[i].1 ≠ key)) (fun i => hs.length - (intOf i).toNat)
  case atStart => exact ⟨0, by omega, rfl, fun _ _ h => absurd h (by omega)⟩
  case round =>
    obtain ⟨k, hk, rfl, HN⟩ := hrel
    by_cases hlt : k < hs.length
    · obtain ⟨b, off, rfl, hb, h0, h1⟩ := hh.lies k hlt
      have hlt' : (k : Int) < (hs.length : Int) := by omega
      have h0' := fun o => ((ab o).cell (p := ⟨b, off + k * 2, none⟩) hb).trans h0
      have h1' := fun o => ((ab o).cell (p := ⟨b, off + k * 2 + 1, none⟩) hb).trans h1
      by_cases hkey : hs[k].1 = key
      · have hkb : (hs[k].1.toList == key.toList) = true := by rw [hkey]; simp
        have HK : Hid (hs[k].1 = key) := hkey
        clear hkey
        go_wp2
        go_ret2
        obtain ⟨g1, g2⟩ := get_some k hlt HK.out HN.out
        refine ⟨?_, ab _⟩
        rw [← HG.out.1, ← HG.out.2, g1, g2]; rfl
      · have hkb : (hs[k].1.toList == key.toList) = false := by
          rw [beq_eq_false_iff_ne]; exact fun e => hkey (bytes_eq e)
        have HK : Hid (hs[k].1 ≠ key) := hkey
        clear hkey
        go_wp2
        go_round
        case rel => exact ⟨k + 1, by omega, by go_num, fun i hi hik => by
          by_cases e : i = k
          · subst e; exact HK.out
          · exact HN.out i hi (by omega)⟩
        case measure => simp [intOf]; omega
    · go_wp2
      go_ret2
      obtain ⟨g1, g2⟩ := get_none fun i hi => HN.out i hi (by omega)
      refine ⟨?_, ab _⟩
      rw [← HG.out.1, ← HG.out.2, g1, g2]; rfl

set_option maxRecDepth 100000 in
set_option maxHeartbeats 1000000 in
theorem rsame_any (a b : Ms) (va vb : Value) (w : World) (ha : MsAt w va a) (hb : MsAt w vb b) :
    Calls Try.prog 10 #[va, vb] w fun e w' => e = .returned (.bool (sameB a b)) ∧ Below w.heap.size w w' := by
  obtain ⟨⟨ao, c, bo, d, rfl, a1, a2, _⟩, _, _⟩ := ha
  obtain ⟨⟨ao', c', bo', d', rfl, b1, b2, _⟩, _, _⟩ := hb
  generalize hr : sameB a b = r
  have HR : Hid (sameB a b = r) := hr
  clear hr
  have hsx := a1.small
  have hsy := b1.small
  unfold maxLen at hsx hsy
  have hbw : ∀ o o' : Obj, Below w.heap.size w ((w.alloc o).alloc o') := fun o o' => ((Below.refl _ _).alloc (Nat.le_refl _) _).alloc (by simp) _
  have cva := fun o o' => conv_body (a2.below (Nat.le_refl _) (hbw o o')) d
  have cvb := fun o o' => conv_body (b2.below (Nat.le_refl _) (hbw o o')) d'
  by_cases h1 : a.st = b.st
  · have q1 : (a.st != b.st) = false := by simp [h1]
    have H1 : Hid ((a.st == b.st) = true) := by show (a.st == b.st) = true; simp [h1]
    clear h1
    cases h2 : (a.path.toList == b.path.toList) with
    | false =>
      go_enter Try.func10, Try.ntmps10
      go_wp2
      go_ret
      refine ⟨ret_bool ?_, hbw _ _⟩
      rw [← HR.out, sameB, H1.out, h2]; rfl
    | true =>
      cases h3 : (a.body.toList == b.body.toList) with
      | false =>
        go_enter Try.func10, Try.ntmps10
        go_wp2
        go_ret
        refine ⟨ret_bool ?_, hbw _ _⟩
        rw [← HR.out, sameB, H1.out, h2, h3]; simp
      | true =>
        by_cases hl : a.heads.length = b.heads.length
        · have hl' : ((a.heads.length : Int) != (b.heads.length : Int)) = false := by simp [hl]
          have HL : Hid (a.heads.length = b.heads.length) := hl
          have HE : Hid (sameB a b = decide (a.heads = b.heads)) := by show sameB a b = _; rw [sameB, H1.out, h2, h3]; simp
          clear hl
          go_enter Try.func10, Try.ntmps10
          go_wp2
          go_loopw [39] (fun i wr => ∃ k n : Nat, k ≤ a.heads.length ∧ i = .int .i64 k ∧ wr = (((w.alloc (.cells #[.int .i64 a.st, .string a.path, .slice ao a.heads.length c, .slice bo a.body.size d] 27)).alloc (.cells #[.int .i64 b.st, .string b.path, .slice ao' b.heads.length c', .slice bo' b.body.size d'] 27))).drewN n ∧ Hid (∀ i (h : i < a.heads.length) (h' : i < b.heads.length), i < k → a.heads[i] = b.heads[i])) (fun i _ => a.heads.length - (intOf i).toNat)
          case atStart => exact ⟨0, 0, by omega, rfl, rfl, fun _ _ _ h => absurd h (by omega)⟩
          case round =>
            obtain ⟨k, n, hk, rfl, rfl, HN⟩ := hrel
            by_cases hlt : k < a.heads.length
            · have hlt2 : k < b.heads.length := by rw [← HL.out]; exact hlt
              obtain ⟨b0, off, rfl, hb, h0, h1⟩ := a1.lies k hlt
              obtain ⟨b0', off', rfl, hb', h0', h1'⟩ := b1.lies k hlt2
              have i1 : (k : Int) < (a.heads.length : Int) := by omega
              have i2 : (k : Int) < (b.heads.length : Int) := by omega
              have y0 := fun o o' => ((hbw o o').cell (p := ⟨b0, off + k * 2, none⟩) hb).trans h0
              have y1 := fun o o' => ((hbw o o').cell (p := ⟨b0, off + k * 2 + 1, none⟩) hb).trans h1
              have y2 := fun o o' => ((hbw o o').cell (p := ⟨b0', off' + k * 2, none⟩) hb').trans h0'
              have y3 := fun o o' => ((hbw o o').cell (p := ⟨b0', off' + k * 2 + 1, none⟩) hb').trans h1'
              have q1 := Try.held45
              have q2 := Try.guard45
              by_cases e1 : a.heads[k].1 = b.heads[k].1
              · have e1' : (a.heads[k].1.toList == b.heads[k].1.toList) = true := by rw [e1]; simp
                by_cases e2 : a.heads[k].2 = b.heads[k].2
                · have e2' : (a.heads[k].2.toList == b.heads[k].2.toList) = true := by rw [e2]; simp
                  have HK : Hid (a.heads[k] = b.heads[k]) := Prod.ext e1 e2
                  clear e1 e2
                  go_wp2
                  go_quiet (fail)
                  go_wp2
                  go_roundw
                  case rel => exact ⟨k + 1, n + nq, by omega, by go_num, by first | rfl | rw [World.drewN_drewN], fun i hi hi' hik => by
                    by_cases e : i = k
                    · subst e; exact HK.out
                    · exact HN.out i hi hi' (by omega)⟩
                  case measure => simp [intOf]; omega
                · have e2' : (a.heads[k].2.toList == b.heads[k].2.toList) = false := by
                    rw [beq_eq_false_iff_ne]; exact fun e => e2 (bytes_eq e)
                  have HK : Hid (a.heads[k] ≠ b.heads[k]) := fun e => e2 (by rw [e])
                  clear e1 e2
                  go_wp2
                  go_quiet (fail)
                  go_wp2
                  go_ret
                  refine ⟨ret_bool ?_, belDrewN (belDrewN (hbw _ _) _) _⟩
                  rw [← HR.out, HE.out, eq_comm, decide_eq_false_iff_not]
                  intro e
                  have : a.heads[k]? = b.heads[k]? := by rw [e]
                  rw [List.getElem?_eq_getElem hlt, List.getElem?_eq_getElem hlt2] at this
                  exact HK.out (Option.some.inj this)
              · have e1' : (a.heads[k].1.toList == b.heads[k].1.toList) = false := by
                  rw [beq_eq_false_iff_ne]; exact fun e => e1 (bytes_eq e)
                have HK : Hid (a.heads[k] ≠ b.heads[k]) := fun e => e1 (by rw [e])
                clear e1
                go_wp2
                go_quiet (fail)
                go_wp2
                go_ret
                refine ⟨ret_bool ?_, belDrewN (belDrewN (hbw _ _) _) _⟩
                rw [← HR.out, HE.out, eq_comm, decide_eq_false_iff_not]
                intro e
                have : a.heads[k]? = b.heads[k]? := by rw [e]
                rw [List.getElem?_eq_getElem hlt, List.getElem?_eq_getElem hlt2] at this
                exact HK.out (Option.some.inj this)
            · go_wp2
              go_ret
              refine ⟨ret_bool ?_, belDrewN (hbw _ _) _⟩
              rw [← HR.out, HE.out, eq_comm, decide_eq_true_iff]
              exact List.ext_getElem HL.out fun i h1 h2 => HN.out i h1 h2 (by omega)
        · have hl' : ((a.heads.length : Int) != (b.heads.length : Int)) = true := by simp; omega
          go_enter Try.func10, Try.ntmps10
          go_wp2
          go_ret
          refine ⟨ret_bool ?_, hbw _ _⟩
          rw [← HR.out, sameB, decide_eq_false (fun e => hl (by rw [e]))]; simp
  · have q1 : (a.st != b.st) = true := by simp [h1]
    go_enter Try.func10, Try.ntmps10
    go_wp2
    go_ret
    refine ⟨ret_bool ?_, hbw _ _⟩
    rw [← HR.out, sameB, beq_eq_false_iff_ne.2 h1]; rfl
end Go.Proofs.Ytmndhecbjpjamaa
