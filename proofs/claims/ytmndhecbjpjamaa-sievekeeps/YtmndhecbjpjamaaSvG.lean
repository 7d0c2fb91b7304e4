/- What a right filter makes of a right ask is right: data alone. -/
import Derived.Test.YtmndhecbjpjamaaMsgZ
import Derived.Test.YtmndhecbjpjamaaSvE
namespace Go.Proofs.Ytmndhecbjpjamaa
open Go.RowKit

theorem fnd_lt {key : ByteArray} {hs : List Hd} : fndI key hs < 0 ↔ ∀ h ∈ hs, h.1 ≠ key := by
  rcases fnd_cases key hs with ⟨h1, h2⟩ | ⟨k, hk, h1, h2, _⟩
  · constructor
    · intro _ h hh
      obtain ⟨i, hi, rfl⟩ := List.mem_iff_getElem.1 hh
      exact h2 i hi
    · intro _; omega
  · constructor
    · intro h; omega
    · intro h; exact absurd h2 (h _ (List.getElem_mem hk))

theorem okHs_iff (hs : List Hd) : okHs hs = true ↔ (∀ h ∈ hs, keyB h.1 = true ∧ linB h.2 = true) ∧ (hs.map (·.1)).Nodup := by
  unfold okHs
  rw [List.all_eq_true]
  have hg : ∀ i (hi : i < hs.length), goodAt hs i = true ↔ (keyB hs[i].1 = true ∧ linB hs[i].2 = true) ∧ ∀ h ∈ hs.take i, h.1 ≠ hs[i].1 := by
    intro i hi
    unfold goodAt
    rw [List.getElem?_eq_getElem hi]
    simp only [Bool.and_eq_true, decide_eq_true_eq, fnd_lt]
    constructor
    · rintro ⟨a, b, c⟩; exact ⟨⟨a, c⟩, b⟩
    · rintro ⟨⟨a, c⟩, b⟩; exact ⟨a, b, c⟩
  constructor
  · intro h
    refine ⟨?_, ?_⟩
    · intro x hx
      obtain ⟨i, hi, rfl⟩ := List.mem_iff_getElem.1 hx
      exact ((hg i hi).1 (h i (List.mem_range.2 hi))).1
    · rw [List.nodup_iff_pairwise_ne, List.pairwise_iff_getElem]
      intro i j hi hj hij
      simp only [List.length_map] at hi hj
      simp only [List.getElem_map]
      refine ((hg j hj).1 (h j (List.mem_range.2 hj))).2 hs[i] ?_
      rw [List.mem_iff_getElem]
      exact ⟨i, by simp; omega, by simp⟩
  · rintro ⟨h1, h2⟩ i hi
    have hi' := List.mem_range.1 hi
    refine (hg i hi').2 ⟨h1 _ (List.getElem_mem hi'), ?_⟩
    intro x hx
    obtain ⟨j, hj, rfl⟩ := List.mem_iff_getElem.1 hx
    have hj' : j < i := by simp at hj; omega
    rw [List.nodup_iff_pairwise_ne, List.pairwise_iff_getElem] at h2
    have := h2 j i (by simp; omega) (by simpa using hi') hj'
    simpa using this

theorem setH_keys (key text : ByteArray) : ∀ hs : List Hd, (setH key text hs).map (·.1) = hs.map (·.1)
  | [] => rfl
  | h :: t => by
    unfold setH
    split
    · rfl
    · simp [setH_keys key text t]
theorem setH_mem (key text : ByteArray) : ∀ hs : List Hd, ∀ h ∈ setH key text hs, ∃ x ∈ hs, h.1 = x.1 ∧ (h.2 = x.2 ∨ h.2 = text)
  | [], h, hh => absurd hh (by simp [setH])
  | y :: t, h, hh => by
    unfold setH at hh
    split at hh
    · rcases List.mem_cons.1 hh with rfl | hh
      · exact ⟨y, by simp, rfl, .inr rfl⟩
      · exact ⟨h, by simp [hh], rfl, .inl rfl⟩
    · rcases List.mem_cons.1 hh with rfl | hh
      · exact ⟨h, by simp, rfl, .inl rfl⟩
      · obtain ⟨x, hx, e⟩ := setH_mem key text t h hh
        exact ⟨x, by simp [hx], e⟩
theorem getB_not {key : ByteArray} : ∀ {hs : List Hd}, getB key hs = false → ∀ h ∈ hs, h.1 ≠ key
  | [], _, h, hh => absurd hh (by simp)
  | y :: t, hb, h, hh => by
    unfold getB at hb
    split at hb
    · cases hb
    · rename_i hn
      rcases List.mem_cons.1 hh with rfl | hh
      · exact hn
      · exact getB_not hb h hh

theorem okHs_set {key text : ByteArray} {hs : List Hd} (hk : keyB key = true) (ht : linB text = true) (h : okHs hs = true) (hl : hs.length ≤ 6) : okHs (setHs key text hs) = true ∧ (setHs key text hs).length ≤ 6 := by
  rw [okHs_iff] at h ⊢
  unfold setHs
  cases hb : getB key hs with
  | true =>
    rw [if_pos rfl]
    refine ⟨⟨?_, ?_⟩, by rw [setH_length]; exact hl⟩
    · intro x hx
      obtain ⟨y, hy, e1, e2⟩ := setH_mem key text hs x hx
      refine ⟨by rw [e1]; exact (h.1 y hy).1, ?_⟩
      rcases e2 with e2 | e2
      · rw [e2]; exact (h.1 y hy).2
      · rw [e2]; exact ht
    · rw [setH_keys]; exact h.2
  | false =>
    rw [if_neg (by simp)]
    split
    · refine ⟨⟨?_, ?_⟩, by simp; omega⟩
      · intro x hx
        rcases List.mem_append.1 hx with hx | hx
        · exact h.1 x hx
        · obtain rfl : x = (key, text) := by simpa using hx
          exact ⟨hk, ht⟩
      · rw [List.map_append, List.nodup_append]
        refine ⟨h.2, by simp, ?_⟩
        intro a ha b hb'
        obtain ⟨x, hx, rfl⟩ := List.mem_map.1 ha
        simp only [List.map_cons, List.map_nil, List.mem_singleton] at hb'
        subst hb'
        exact getB_not hb x hx
    · exact ⟨h, hl⟩

/-- What is right of a message. -/
theorem wrong_zero {m : Ms} : wrongE m = 0 ↔ (m.st = 0 ∧ pthB m.path = true ∨ (100 ≤ m.st ∧ m.st ≤ 599) ∧ m.path.toList = []) ∧ m.heads.length ≤ 6 ∧ m.body.size ≤ 40 ∧ okHs m.heads = true := by
  unfold wrongE
  constructor
  · intro h
    split at h
    · omega
    · split at h
      · omega
      · split at h
        · omega
        · split at h
          · omega
          · split at h
            · omega
            · split at h
              · rename_i h1 h2 h3 h4 h5 h6
                refine ⟨?_, by omega, by omega, h6⟩
                by_cases e : m.st = 0
                · left
                  refine ⟨e, ?_⟩
                  cases hp : pthB m.path
                  · exact absurd ⟨e, hp⟩ h2
                  · rfl
                · right
                  refine ⟨by omega, ?_⟩
                  by_cases ep : m.path.toList = []
                  · exact ep
                  · exact absurd ⟨e, ep⟩ h3
              · omega
  · rintro ⟨h, h1, h2, h3⟩
    rcases h with ⟨a, b⟩ | ⟨a, b⟩
    · rw [if_neg (by omega), if_neg (by rw [b]; simp), if_neg (by omega), if_neg (by omega), if_neg (by omega), if_pos h3]
    · rw [if_neg (by omega), if_neg (by omega), if_neg (by rw [b]; simp), if_neg (by omega), if_neg (by omega), if_pos h3]

theorem wrong_say {st : Int} {s : ByteArray} (h1 : 100 ≤ st) (h2 : st ≤ 599) (hs : s.size ≤ 40) : wrongE (sayM st s) = 0 := by
  rw [wrong_zero]
  exact ⟨.inr ⟨⟨h1, h2⟩, by rw [toList_eq]; rfl⟩, by simp [sayM], hs, by rfl⟩

theorem named_right {key text : ByteArray} (h : namedE key text = 0) : keyB key = true ∧ linB text = true := by
  unfold namedE at h
  split at h
  · rename_i e; simpa using e
  · omega

/-- AN ASK STAYS ONE, as data. -/
theorem keeps (k n : Int) (key text : ByteArray) (m : Ms) (g : Int) (hs : sieveE k n key text = 0) (hm : wrongE m = 0) (h0 : m.st = 0) :
    wrongE (askM k n key text m g) = 0 ∧ g ≤ askG k n g ∧ askG k n g ≤ g + 1 ∧
      (askD k n key text m g = 1 ∧ 400 ≤ (askM k n key text m g).st ∧ askG k n g = g ∨ askD k n key text m g = 0 ∧ (askM k n key text m g).st = 0 ∧ (askM k n key text m g).path = m.path ∧ (askM k n key text m g).body = m.body) := by
  have hG : g ≤ askG k n g ∧ askG k n g ≤ g + 1 := by unfold askG; split <;> omega
  refine ⟨?_, hG.1, hG.2, ?_⟩
  · unfold askM
    split
    · split
      · exact wrong_say (by omega) (by omega) (by decide)
      · split
        · exact wrong_say (by omega) (by omega) (by decide)
        · exact wrong_say (by omega) (by omega) (by decide)
    · split
      · rename_i hk
        have hn : namedE key text = 0 := by simpa [sieveE, hk] using hs
        obtain ⟨a, b⟩ := named_right hn
        rw [wrong_zero] at hm ⊢
        obtain ⟨p, q, r, t⟩ := hm
        obtain ⟨x, y⟩ := okHs_set a b t q
        exact ⟨p, y, r, x⟩
      · exact hm
  · unfold askD askM
    cases hS : askS k n key text m g with
    | true =>
      left
      refine ⟨rfl, ?_, ?_⟩
      · rw [if_pos rfl]
        split
        · show (400 : Int) ≤ 401; omega
        · split
          · show (400 : Int) ≤ 413; omega
          · show (400 : Int) ≤ 429; omega
      · unfold askG
        rw [if_neg]
        rintro ⟨e, h⟩
        subst e
        simp [askS] at hS
        omega
    | false =>
      right
      refine ⟨rfl, ?_⟩
      rw [if_neg (by simp)]
      split
      · exact ⟨h0, rfl, rfl⟩
      · exact ⟨h0, rfl, rfl⟩
end Go.Proofs.Ytmndhecbjpjamaa
