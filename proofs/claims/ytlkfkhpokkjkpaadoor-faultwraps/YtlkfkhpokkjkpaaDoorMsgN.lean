/- What is written is read again, and what is read was so written: on lists of bytes alone. -/
import Derived.Test.YtlkfkhpokkjkpaaDoorMsgK
namespace Go.Proofs.YtlkfkhpokkjkpaaDoor
open Go.RowKit

theorem cutL_at (c : UInt8) : ∀ (a b : List UInt8), c ∉ a → cutL c (a ++ c :: b) = (a, b, true)
  | [], b, _ => by simp [cutL]
  | x :: t, b, h => by
    have hx : ¬ x = c := fun e => h (by simp [e])
    have ht : c ∉ t := fun e => h (by simp [e])
    simp [cutL, hx, cutL_at c t b ht]
theorem cutL_back (c : UInt8) : ∀ l : List UInt8, (cutL c l).2.2 = true → l = (cutL c l).1 ++ c :: (cutL c l).2.1
  | [], h => by simp [cutL] at h
  | x :: t, h => by
    by_cases e : x = c
    · simp [cutL, e]
    · simp [cutL, e] at h ⊢
      exact cutL_back c t h

theorem mem_toNat {p : Int → Bool} {s : ByteArray} (h : allB p s = true) {c : UInt8} (hc : p (c.toNat : Int) = false) : c ∉ s.data.toList := by
  intro hm
  have := allB_at h c hm
  rw [hc] at this; cases this
theorem key_bytes {s : ByteArray} (h : keyB s = true) : (10 : UInt8) ∉ s.data.toList ∧ (61 : UInt8) ∉ s.data.toList ∧ s.data.toList ≠ [] := by
  unfold keyB at h
  simp only [Bool.and_eq_true, decide_eq_true_eq] at h
  refine ⟨mem_toNat h.2.2 (by decide), mem_toNat h.2.2 (by decide), ?_⟩
  rw [← toList_eq]; exact h.1
theorem line_bytes {s : ByteArray} (h : linB s = true) : (10 : UInt8) ∉ s.data.toList := by
  unfold linB at h
  simp only [Bool.and_eq_true, decide_eq_true_eq] at h
  exact mem_toNat h.2 (by decide)
theorem path_bytes {s : ByteArray} (h : pthB s = true) : (10 : UInt8) ∉ s.data.toList := by
  unfold pthB at h
  simp only [Bool.and_eq_true, decide_eq_true_eq] at h
  exact mem_toNat h.2.2.2 (by decide)

/-- The lines of right heads are read as these. -/
theorem readR_lines (body : List UInt8) : ∀ (hs hs0 : List Hd), (∀ h ∈ hs, keyB h.1 = true ∧ linB h.2 = true) → hs0.length + hs.length ≤ 7 → readR (hs.flatMap lineL ++ 10 :: body) hs0 = some (hs0 ++ hs, body)
  | [], hs0, _, _ => by
    rw [readR_eq]
    have := cutL_at 10 [] body (by simp)
    simp only [List.nil_append] at this
    simp [this]
  | h :: t, hs0, hk, hl => by
    obtain ⟨k1, k2⟩ := hk h (by simp)
    obtain ⟨b1, b2, b3⟩ := key_bytes k1
    have b4 := line_bytes k2
    have e : (h :: t).flatMap lineL ++ 10 :: body = (h.1.data.toList ++ 61 :: h.2.data.toList) ++ 10 :: (t.flatMap lineL ++ 10 :: body) := by
      simp [lineL]
    have hn : (10 : UInt8) ∉ h.1.data.toList ++ 61 :: h.2.data.toList := by
      intro hm
      rcases List.mem_append.1 hm with hm | hm
      · exact b1 hm
      · rcases List.mem_cons.1 hm with hm | hm
        · cases hm
        · exact b4 hm
    have c1 := cutL_at 10 _ (t.flatMap lineL ++ 10 :: body) hn
    have c2 := cutL_at 61 h.1.data.toList h.2.data.toList b2
    have hlen : hs0.length ≤ 6 := by simp at hl; omega
    rw [readR_eq, e, c1]
    simp only [c2]
    rw [if_neg (by simp), if_neg (by simp), if_neg (by simp), if_pos hlen, B_of, B_of]
    rw [readR_lines body t (hs0 ++ [(h.1, h.2)]) (fun x hx => hk x (by simp [hx])) (by simp at hl ⊢; omega)]
    simp

theorem three_digits : ∀ (a b c : Fin 10), Lib.atoiAll [UInt8.ofNat (48 + a.val), UInt8.ofNat (48 + b.val), UInt8.ofNat (48 + c.val)] = .ok ((a.val * 100 + b.val * 10 + c.val : Nat) : Int) := by decide +kernel
theorem three_plain : ∀ (a b c : Fin 10), (10 : UInt8) ∉ [UInt8.ofNat (48 + a.val), UInt8.ofNat (48 + b.val), UInt8.ofNat (48 + c.val)] := by decide +kernel
theorem itoa_three (n : Int) (h1 : 100 ≤ n) (h2 : n ≤ 599) : ∃ a b c : Fin 10, Lib.itoa n = [UInt8.ofNat (48 + a.val), UInt8.ofNat (48 + b.val), UInt8.ofNat (48 + c.val)] ∧ n = ((a.val * 100 + b.val * 10 + c.val : Nat) : Int) := by
  have h3 : ¬ n < 0 := by omega
  refine ⟨⟨n.toNat / 10 / 10, by omega⟩, ⟨n.toNat / 10 % 10, by omega⟩, ⟨n.toNat % 10, by omega⟩, ?_, ?_⟩
  · rw [Lib.itoa, if_neg h3, Lib.decDigits, dif_neg (by omega), Lib.decDigits, dif_neg (by omega), Lib.decDigits, dif_pos (by omega)]
    simp
  · show n = ((n.toNat / 10 / 10 * 100 + n.toNat / 10 % 10 * 10 + n.toNat % 10 : Nat) : Int)
    omega
theorem num_itoa (n : Int) (h1 : 100 ≤ n) (h2 : n ≤ 599) : numL (Lib.itoa n) = some n ∧ (10 : UInt8) ∉ Lib.itoa n := by
  obtain ⟨a, b, c, e, en⟩ := itoa_three n h1 h2
  constructor
  · unfold numL
    have : Lib.atoiAll (Lib.itoa n) = .ok n := by rw [e, three_digits, ← en]
    rw [this]
    have h0 : ¬ n = 0 := by omega
    simp [h0]
  · rw [e]; exact three_plain a b c

/-- WRITTEN, AND READ AGAIN. -/
theorem read_text {m : Ms} (h : wrongE m = 0) : readL (textL m) = some m := by
  obtain ⟨h1, h2, h3, h4⟩ := right_parts h
  have hh : ∀ x ∈ m.heads, keyB x.1 = true ∧ linB x.2 = true := by
    intro x hx
    obtain ⟨i, hi, rfl⟩ := List.mem_iff_getElem.1 hx
    obtain ⟨k1, _, k3⟩ := okHs_at h3 i hi
    exact ⟨k1, k3⟩
  have hr := readR_lines m.body.data.toList m.heads [] hh (by simp; omega)
  rcases h4 with ⟨a, b⟩ | ⟨a, b, c, d⟩
  · have e : textL m = ([97, 115, 107, 32] ++ m.path.data.toList) ++ 10 :: (m.heads.flatMap lineL ++ 10 :: m.body.data.toList) := by
      simp [textL, headL, a]
    have hn : (10 : UInt8) ∉ [97, 115, 107, 32] ++ m.path.data.toList := by
      intro hm
      rcases List.mem_append.1 hm with hm | hm
      · revert hm; decide
      · exact path_bytes b hm
    have hf : firstL ([97, 115, 107, 32] ++ m.path.data.toList) = some (0, m.path.data.toList) := by
      simp [firstL, Lib.hasPrefix]
    rw [readL, e, cutL_at 10 _ _ hn]
    simp only [hf, hr]
    rw [if_pos trivial, Option.map_some]
    simp only [List.nil_append, B_of]
    rw [← a]
  · obtain ⟨n1, n2⟩ := num_itoa m.st b c
    have e : textL m = ([115, 97, 121, 32] ++ Lib.itoa m.st) ++ 10 :: (m.heads.flatMap lineL ++ 10 :: m.body.data.toList) := by
      simp [textL, headL, a]
    have hn : (10 : UInt8) ∉ [115, 97, 121, 32] ++ Lib.itoa m.st := by
      intro hm
      rcases List.mem_append.1 hm with hm | hm
      · revert hm; decide
      · exact n2 hm
    have hf : firstL ([115, 97, 121, 32] ++ Lib.itoa m.st) = some (m.st, []) := by
      simp [firstL, Lib.hasPrefix, n1]
    have hp : B [] = m.path := by rw [← B_of m.path, ← toList_eq, d]
    rw [readL, e, cutL_at 10 _ _ hn]
    simp only [hf, hr]
    rw [if_pos trivial, Option.map_some]
    simp only [List.nil_append, B_of]
    rw [hp]

/-- What is read of the lines was so written, if no head was left out. -/
theorem readR_back : ∀ (n : Nat) (rest : List UInt8), rest.length ≤ n → ∀ (hs0 : List Hd) (hs : List Hd) (body : List UInt8), readR rest hs0 = some (hs, body) → hs.length ≤ 6 → ∃ t, hs = hs0 ++ t ∧ rest = t.flatMap lineL ++ 10 :: body
  | n, rest, hn, hs0, hs, body, h, hl => by
    rw [readR_eq] at h
    obtain ⟨l, r, en, hL⟩ : ∃ l r en, cutL 10 rest = (l, r, en) := ⟨_, _, _, rfl⟩
    obtain ⟨k, t, ok, hK⟩ : ∃ k t ok, cutL 61 l = (k, t, ok) := ⟨_, _, _, rfl⟩
    have b1 := cutL_back 10 rest
    have b2 := cutL_back 61 l
    have hlen := (cutL_len 10 rest).2.1
    rw [hL] at h b1 hlen
    simp only at h b1 hlen
    rw [hK] at h b2
    simp only at h b2
    by_cases c1 : en = false
    · rw [if_pos c1] at h; cases h
    · have c1' : en = true := by simpa using c1
      have e1 := b1 c1'
      have hlen' := hlen c1'
      rw [if_neg c1] at h
      by_cases c2 : l = []
      · rw [if_pos c2] at h
        simp only [Option.some.injEq, Prod.mk.injEq] at h
        refine ⟨[], by simp [h.1], ?_⟩
        rw [e1, c2, ← h.2]
        simp
      · rw [if_neg c2] at h
        by_cases c3 : ok = false
        · rw [if_pos c3] at h; cases h
        · rw [if_neg c3] at h
          have e2 := b2 (by simpa using c3)
          cases n with
          | zero => omega
          | succ n =>
            obtain ⟨u, ht1, ht2⟩ := readR_back n _ (by omega) _ hs body h hl
            by_cases c4 : hs0.length ≤ 6
            · rw [if_pos c4] at ht1
              refine ⟨(B k, B t) :: u, by rw [ht1]; simp, ?_⟩
              rw [e1, ht2, e2]
              simp [lineL, B_data]
            · rw [if_neg c4] at ht1
              rw [ht1] at hl
              simp at hl
              omega

/-- A TEXT THAT IS READ IS ITS MESSAGE's. -/
theorem text_read {s : List UInt8} {m : Ms} (h : readL s = some m) (hw : wrongE m = 0) : textL m = s := by
  obtain ⟨h1, _, _, _⟩ := right_parts hw
  unfold readL at h
  cases hf : firstL (cutL 10 s).1 with
  | none => rw [hf] at h; cases h
  | some q =>
    obtain ⟨st, p⟩ := q
    rw [hf] at h
    simp only at h
    by_cases c1 : (cutL 10 s).2.2 = true
    · rw [if_pos c1] at h
      obtain ⟨x, hx, hm⟩ := Option.map_eq_some_iff.1 h
      obtain ⟨hs, body⟩ := x
      subst hm
      obtain ⟨t, ht1, ht2⟩ := readR_back _ _ (Nat.le_refl _) [] hs body hx h1
      have e1 := cutL_back 10 s c1
      simp only [List.nil_append] at ht1
      subst ht1
      have hfirst : (cutL 10 s).1 = (if st = 0 then [97, 115, 107, 32] ++ p else [115, 97, 121, 32] ++ Lib.itoa st) := by
        unfold firstL at hf
        by_cases d1 : Lib.hasPrefix (cutL 10 s).1 [97, 115, 107, 32] = true
        · rw [if_pos d1] at hf
          simp only [Option.some.injEq, Prod.mk.injEq] at hf
          obtain ⟨rfl, rfl⟩ := hf
          rw [if_pos rfl]
          unfold Lib.hasPrefix at d1
          rw [List.isPrefixOf_iff_prefix] at d1
          obtain ⟨r, hr⟩ := d1
          rw [← hr]; simp
        · rw [if_neg d1] at hf
          by_cases d2 : Lib.hasPrefix (cutL 10 s).1 [115, 97, 121, 32] = true
          · rw [if_pos d2] at hf
            obtain ⟨n, hn, he⟩ := Option.map_eq_some_iff.1 hf
            simp only [Prod.mk.injEq] at he
            obtain ⟨rfl, rfl⟩ := he
            unfold Lib.hasPrefix at d2
            rw [List.isPrefixOf_iff_prefix] at d2
            obtain ⟨r, hr⟩ := d2
            rw [← hr] at hn ⊢
            simp only [List.cons_append, List.nil_append, List.drop_succ_cons, List.drop_zero] at hn
            unfold numL at hn
            split at hn
            · rename_i k hk
              by_cases k0 : k = 0
              · rw [if_pos k0] at hn; cases hn
              · rw [if_neg k0] at hn
                by_cases k1 : Lib.itoa k = r
                · rw [if_pos k1] at hn
                  obtain rfl := Option.some.inj hn
                  rw [if_neg k0, k1]
                · rw [if_neg k1] at hn; cases hn
            · cases hn
          · rw [if_neg d2] at hf; cases hf
      rw [e1, ht2, hfirst]
      simp only [textL, headL, B_data]
      by_cases s0 : st = 0
      · simp [s0]
      · simp [s0]
    · rw [if_neg c1] at h; cases h
end Go.Proofs.YtlkfkhpokkjkpaaDoor
