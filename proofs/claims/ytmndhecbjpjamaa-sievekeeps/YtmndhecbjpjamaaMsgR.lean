/- Walks of the document's own answer: Wrong, with its map of keys. -/
import Derived.Test.YtmndhecbjpjamaaMsgQ
import Derived.Maps.Own
import Derived.Maps.OwnOps
import Derived.Maps.Views
namespace Go.Proofs.Ytmndhecbjpjamaa
open Go.RowKit Go.Maps

theorem mlaw : Keyed Try.prog 9 := string_keyed Try.underlying9
theorem zero4 (w : World) : (zeroValue 4).run Try.prog w = .ok (.bool false) w := by kernel_rfl
theorem plainElem_bool_inv {P : Program} {e : TypeId} (he : P.underlying e = some .bool) {v : Value} {z : DataW Unit × List MemPlace} (h : plainElem P e v = some z) : ∃ x, v = .bool x ∧ z = (.lit (.bool x), []) := by
  unfold plainElem at h
  rw [he] at h
  cases v <;> simp at h
  subst h
  exact ⟨_, rfl, rfl⟩
/-- 'had[k]' of a map of bools that the call has made. -/
theorem lookup_bool {w : World} {b n : Nat} {D : DataW Unit} (h : w.ownsMap Try.prog 9 (plainElem Try.prog 4) b n D) (key : ByteArray) (hk : key.size ≤ maxLen) :
    ∃ c, (Instr.lookup 59 (.map (some b)) (.string key) false).run Try.prog w = .ok (.bool c) w ∧ D.atKey (.string key.data.toList) (.lit (.bool false)) = .lit (.bool c) := by
  obtain ⟨v, ps, hrun, hv⟩ := h.lookup mlaw Try.underlying59 (zero4 w) (plainElem_bool Try.underlying4 false) (WideMaps.keyOf_string_mk Try.underlying9 hk)
  obtain ⟨c, rfl, hc⟩ := plainElem_bool_inv Try.underlying4 hv
  simp only [Prod.mk.injEq] at hc
  exact ⟨c, hrun, hc.1⟩

/-- The map holds just the keys of so many heads. -/
def Keys (D : DataW Unit) (hs : List Hd) : Prop := IsMap D ∧ ∀ key : ByteArray, D.atKey (.string key.data.toList) (.lit (.bool false)) = .lit (.bool (getB key hs))
theorem keys_nil : Keys (.map []) [] := ⟨isMap_empty, fun _ => rfl⟩
theorem getB_snoc (key : ByteArray) (h : Hd) : ∀ hs : List Hd, getB key (hs ++ [h]) = (getB key hs || decide (h.1 = key))
  | [] => by simp [getB]
  | x :: t => by
    by_cases e : x.1 = key
    · simp [getB, e]
    · simp [getB, e, getB_snoc key h t]
theorem keys_put {D : DataW Unit} {hs : List Hd} (h : Keys D hs) (x : Hd) : Keys (D.put (.string x.1.data.toList) (.lit (.bool true))) (hs ++ [x]) := by
  refine ⟨h.1.put _ _, fun key => ?_⟩
  rw [getB_snoc]
  by_cases e : x.1 = key
  · subst e
    rw [atKey_put_same h.1 (by simp [WideAt.IsKeyLit])]
    simp
  · rw [atKey_put_other (fun e2 => e (by injection e2 with e3; exact (WideShapes.bytes_inj e3).symm)), h.2 key]
    simp [e]
theorem fnd_neg (key : ByteArray) (hs : List Hd) : decide (fndI key hs < 0) = !getB key hs := by
  rcases fnd_cases key hs with ⟨h1, h2⟩ | ⟨k, hk, h1, h2, h3⟩
  · rw [h1, (get_none h2).2]; rfl
  · rw [h1, (get_some k hk h2 h3).2, decide_eq_false (by omega)]; rfl

theorem rwB (w : World) (o : Obj) (n : Nat) : Below (w.heap.size + 1) (w.alloc o) (((w.alloc o).drewN n).alloc (.map #[] 0)) := (belDrewN (Below.refl _ _) n).alloc (by simp) _
theorem rwO (w : World) (o : Obj) (n : Nat) : (((w.alloc o).drewN n).alloc (.map #[] 0)).ownsMap Try.prog 9 (plainElem Try.prog 4) (w.heap.size + 1) 0 (.map [] : DataW Unit) := by
  have h := World.ownsMap_made (H := Unit) ((w.alloc o).drewN n) Try.prog 9 (plainElem Try.prog 4)
  simpa using h
theorem rwG {a w w7 : World} {o : Obj} {H n : Nat} (h : Below (H + 1) a w) (hg : ((w.alloc o).drewN n).grownBy w7 (some (H + 1))) (hs : H + 1 < w.heap.size) : Below (H + 1) a w7 :=
  (belDrewN (h.alloc (by omega) o) n).grown hg (by simp; omega) (fun k e => by cases e; exact Nat.le_refl _)

set_option maxRecDepth 100000 in
set_option maxHeartbeats 1000000 in
theorem rwrong_heads (m : Ms) (v : Value) (w : World) (hm : MsAt w v m) (h1 : (m.st == 0) = true ∧ (m.st != 0) = false ∧ pthB m.path = true ∨ (m.st == 0) = false ∧ (m.st != 0) = true ∧ decide (m.st < 100) = false ∧ decide (599 < m.st) = false ∧ decide (0 < m.path.size) = false) (h3 : m.heads.length ≤ 6) (h4 : m.body.size ≤ 40) :
    Calls Try.prog 14 #[v] w fun e w' => e = .returned (.int .i64 (if okHs m.heads then 0 else 7)) ∧ Below w.heap.size w w' := by
  obtain ⟨⟨ao, c, bo, d, rfl, a1, a2, _, _, n3, n4⟩, hp, R⟩ := hm
  clear R
  generalize hr : (if okHs m.heads then (0 : Int) else 7) = r
  have HR : Hid ((if okHs m.heads then (0 : Int) else 7) = r) := hr
  clear hr
  have hmm := @run_makeMap Try.prog
  have q3 : decide ((6 : Int) < (m.heads.length : Int)) = false := by simp; omega
  have q4 : decide ((40 : Int) < (m.body.size : Int)) = false := by simp; omega
  have i3 : (m.heads.length : Int) ≤ 6 := by omega
  rcases h1 with ⟨h1, h1', h2⟩ | ⟨h1, h1', h2, h2', h2''⟩
  · go_enter Try.func14, Try.ntmps14
    go_wp2_with (first | (go_at_call 23; refine (rpath_any _ _ hp).mono ?_; rintro e w' ⟨rfl, nn, rfl⟩))
    go_loopw [51] (fun i wr => ∃ (k : Nat) (D : DataW Unit), k ≤ m.heads.length ∧ i = .int .i64 k ∧ Below (w.heap.size + 1) (w.alloc (.cells #[.int .i64 m.st, .string m.path, .slice ao m.heads.length c, .slice bo m.body.size d] 27)) wr ∧ wr.ownsMap Try.prog 9 (plainElem Try.prog 4) (w.heap.size + 1) k D ∧ Hid (Keys D (m.heads.take k)) ∧ Hid (∀ j, j < k → goodAt m.heads j = true)) (fun i _ => m.heads.length - (intOf i).toNat)
    case atStart => exact ⟨0, .map [], by omega, rfl, rwB w _ nn, rwO w _ nn, keys_nil, fun _ h => absurd h (by omega)⟩
    case round =>
      obtain ⟨k, D, hk, rfl, hbel, hown, HKY, HN⟩ := hrel
      have bw : Below w.heap.size w wr := ((Below.refl _ _).alloc (Nat.le_refl _) _).trans (hbel.mono (by omega))
      by_cases hlt : k < m.heads.length
      · obtain ⟨b, off, rfl, hb, c0, c1⟩ := a1.lies k hlt
        have hlt' : (k : Int) < (m.heads.length : Int) := by omega
        rw [← bw.cell (p := ⟨b, off + k * 2, none⟩) (by simpa using hb)] at c0
        rw [← bw.cell (p := ⟨b, off + k * 2 + 1, none⟩) (by simpa using hb)] at c1
        have hsz := hown.lt
        have hz := a1.size m.heads[k] (List.getElem_mem hlt)
        have HG : Hid (goodAt m.heads k = (keyB m.heads[k].1 && (!getB m.heads[k].1 (m.heads.take k) && linB m.heads[k].2))) := by
          show goodAt m.heads k = _
          rw [goodAt, List.getElem?_eq_getElem hlt]
          show (keyB m.heads[k].1 && (decide (fndI m.heads[k].1 (m.heads.take k) < 0) && linB m.heads[k].2)) = _
          rw [fnd_neg]
        obtain ⟨cc, hrun, hat⟩ := lookup_bool (hown.alloc (.cells #[.string m.heads[k].1, .string m.heads[k].2] 53)) m.heads[k].1 hz.1
        have hcc : cc = getB m.heads[k].1 (m.heads.take k) := by
          rw [HKY.out.2] at hat
          injection hat with h1
          injection h1 with h2
          exact h2.symm
        have HC : Hid (getB m.heads[k].1 (m.heads.take k) = cc) := hcc.symm
        clear hat hcc
        cases cc with
        | true =>
          go_wp2
          go_ret
          exact ⟨ret_int (by rw [← HR.out, okHs_false k hlt (by rw [HG.out, HC.out]; simp)]; rfl), bw.alloc (by omega) _⟩
        | false =>
          cases e1 : keyB m.heads[k].1 with
          | false =>
            go_wp2_with (first | (go_at_call 16; refine (rkey_any _ _ hz.1).mono ?_; rintro e w' ⟨rfl, nn, rfl⟩))
            go_ret
            exact ⟨ret_int (by rw [← HR.out, okHs_false k hlt (by rw [HG.out, e1]; rfl)]; rfl), belDrewN (bw.alloc (by omega) _) _⟩
          | true =>
            cases e3 : linB m.heads[k].2 with
            | false =>
              go_wp2_with (first | (go_at_call 16; refine (rkey_any _ _ hz.1).mono ?_; rintro e w' ⟨rfl, nn, rfl⟩) | (go_at_call 17; refine (rline_any _ _ hz.2).mono ?_; rintro e w' ⟨rfl, rfl⟩))
              go_ret
              exact ⟨ret_int (by rw [← HR.out, okHs_false k hlt (by rw [HG.out, e3]; simp)]; rfl), belDrewN (bw.alloc (by omega) _) _⟩
            | true =>
              go_wp2_with (first | (go_at_call 16; refine (rkey_any _ _ hz.1).mono ?_; rintro e w' ⟨rfl, nn, rfl⟩) | (go_at_call 17; refine (rline_any _ _ hz.2).mono ?_; rintro e w' ⟨rfl, hw'⟩; subst hw') | (at_mapUpdate; refine wpList_mapUpdate_own _ rfl _ _ _ 59 rfl 9 4 mlaw Try.underlying59 _ (w.heap.size + 1) k D rfl (show World.ownsMap _ _ _ _ _ _ _ from hown.alloc _) (by unfold maxLen; omega) _ _ (.string m.heads[k].1.data.toList) rfl rfl (WideMaps.keyOf_string_mk Try.underlying9 hz.1) (.lit (.bool true)) [] (plainElem_bool Try.underlying4 true) ?_; intro w7 hown7 hgr7))
              exact ⟨⟨k + 1, D.put (.string m.heads[k].1.data.toList) (.lit (.bool true)), by omega, by go_num, rwG hbel hgr7 hsz, hown7, by show Keys _ _; rw [List.take_add_one, List.getElem?_eq_getElem hlt]; exact keys_put HKY.out _, fun j hj => (by
                by_cases e : j = k
                · subst e; rw [HG.out, e1, e3, HC.out]; rfl
                · exact HN.out j (by omega))⟩, by simp [intOf]; omega⟩
      · go_wp2
        go_ret
        exact ⟨ret_int (by rw [← HR.out, okHs_true (fun j hj => HN.out j (by omega))]; rfl), bw⟩
  · go_enter Try.func14, Try.ntmps14
    go_wp2
    go_loopw [51] (fun i wr => ∃ (k : Nat) (D : DataW Unit), k ≤ m.heads.length ∧ i = .int .i64 k ∧ Below (w.heap.size + 1) (w.alloc (.cells #[.int .i64 m.st, .string m.path, .slice ao m.heads.length c, .slice bo m.body.size d] 27)) wr ∧ wr.ownsMap Try.prog 9 (plainElem Try.prog 4) (w.heap.size + 1) k D ∧ Hid (Keys D (m.heads.take k)) ∧ Hid (∀ j, j < k → goodAt m.heads j = true)) (fun i _ => m.heads.length - (intOf i).toNat)
    case atStart => exact ⟨0, .map [], by omega, rfl, rwB w _ 0, rwO w _ 0, keys_nil, fun _ h => absurd h (by omega)⟩
    case round =>
      obtain ⟨k, D, hk, rfl, hbel, hown, HKY, HN⟩ := hrel
      have bw : Below w.heap.size w wr := ((Below.refl _ _).alloc (Nat.le_refl _) _).trans (hbel.mono (by omega))
      by_cases hlt : k < m.heads.length
      · obtain ⟨b, off, rfl, hb, c0, c1⟩ := a1.lies k hlt
        have hlt' : (k : Int) < (m.heads.length : Int) := by omega
        rw [← bw.cell (p := ⟨b, off + k * 2, none⟩) (by simpa using hb)] at c0
        rw [← bw.cell (p := ⟨b, off + k * 2 + 1, none⟩) (by simpa using hb)] at c1
        have hsz := hown.lt
        have hz := a1.size m.heads[k] (List.getElem_mem hlt)
        have HG : Hid (goodAt m.heads k = (keyB m.heads[k].1 && (!getB m.heads[k].1 (m.heads.take k) && linB m.heads[k].2))) := by
          show goodAt m.heads k = _
          rw [goodAt, List.getElem?_eq_getElem hlt]
          show (keyB m.heads[k].1 && (decide (fndI m.heads[k].1 (m.heads.take k) < 0) && linB m.heads[k].2)) = _
          rw [fnd_neg]
        obtain ⟨cc, hrun, hat⟩ := lookup_bool (hown.alloc (.cells #[.string m.heads[k].1, .string m.heads[k].2] 53)) m.heads[k].1 hz.1
        have hcc : cc = getB m.heads[k].1 (m.heads.take k) := by
          rw [HKY.out.2] at hat
          injection hat with h1
          injection h1 with h2
          exact h2.symm
        have HC : Hid (getB m.heads[k].1 (m.heads.take k) = cc) := hcc.symm
        clear hat hcc
        cases cc with
        | true =>
          go_wp2
          go_ret
          exact ⟨ret_int (by rw [← HR.out, okHs_false k hlt (by rw [HG.out, HC.out]; simp)]; rfl), bw.alloc (by omega) _⟩
        | false =>
          cases e1 : keyB m.heads[k].1 with
          | false =>
            go_wp2_with (first | (go_at_call 16; refine (rkey_any _ _ hz.1).mono ?_; rintro e w' ⟨rfl, nn, rfl⟩))
            go_ret
            exact ⟨ret_int (by rw [← HR.out, okHs_false k hlt (by rw [HG.out, e1]; rfl)]; rfl), belDrewN (bw.alloc (by omega) _) _⟩
          | true =>
            cases e3 : linB m.heads[k].2 with
            | false =>
              go_wp2_with (first | (go_at_call 16; refine (rkey_any _ _ hz.1).mono ?_; rintro e w' ⟨rfl, nn, rfl⟩) | (go_at_call 17; refine (rline_any _ _ hz.2).mono ?_; rintro e w' ⟨rfl, rfl⟩))
              go_ret
              exact ⟨ret_int (by rw [← HR.out, okHs_false k hlt (by rw [HG.out, e3]; simp)]; rfl), belDrewN (bw.alloc (by omega) _) _⟩
            | true =>
              go_wp2_with (first | (go_at_call 16; refine (rkey_any _ _ hz.1).mono ?_; rintro e w' ⟨rfl, nn, rfl⟩) | (go_at_call 17; refine (rline_any _ _ hz.2).mono ?_; rintro e w' ⟨rfl, hw'⟩; subst hw') | (at_mapUpdate; refine wpList_mapUpdate_own _ rfl _ _ _ 59 rfl 9 4 mlaw Try.underlying59 _ (w.heap.size + 1) k D rfl (show World.ownsMap _ _ _ _ _ _ _ from hown.alloc _) (by unfold maxLen; omega) _ _ (.string m.heads[k].1.data.toList) rfl rfl (WideMaps.keyOf_string_mk Try.underlying9 hz.1) (.lit (.bool true)) [] (plainElem_bool Try.underlying4 true) ?_; intro w7 hown7 hgr7))
              exact ⟨⟨k + 1, D.put (.string m.heads[k].1.data.toList) (.lit (.bool true)), by omega, by go_num, rwG hbel hgr7 hsz, hown7, by show Keys _ _; rw [List.take_add_one, List.getElem?_eq_getElem hlt]; exact keys_put HKY.out _, fun j hj => (by
                by_cases e : j = k
                · subst e; rw [HG.out, e1, e3, HC.out]; rfl
                · exact HN.out j (by omega))⟩, by simp [intOf]; omega⟩
      · go_wp2
        go_ret
        exact ⟨ret_int (by rw [← HR.out, okHs_true (fun j hj => HN.out j (by omega))]; rfl), bw⟩
end Go.Proofs.Ytmndhecbjpjamaa
