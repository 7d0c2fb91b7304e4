/- The engine: operations reckoned. -/
import Derived.Test.YtbpmcabeghbalaaEnA
namespace Go.Proofs.Ytbpmcabeghbalaa
namespace En
open Go.RowKit
set_option maxRecDepth 100000

def tyK (P : Program) (T : Nat) : Option Nat :=
  match P.underlying T, P.info? T with
  | some td, some i => bif td.isRow then some (i.size + 1) else bif Nat.beq i.size 1 then some 0 else none
  | _, _ => none
theorem tyK_cell {P : Program} {T : Nat} (h : tyK P T = some 0) : ∃ td, P.underlying T = some td ∧ td.isRow = false ∧ (P.info? T).map (·.size) = some 1 := by
  unfold tyK at h
  split at h
  next td i h1 h2 =>
    cases hr : td.isRow with
    | true => rw [hr] at h; simp at h
    | false =>
      rw [hr] at h
      cases hb : Nat.beq i.size 1 with
      | false => rw [hb] at h; cases h
      | true => exact ⟨td, h1, hr, by rw [h2]; simp [Nat.eq_of_beq_eq_true hb]⟩
  · cases h
theorem tyK_row {P : Program} {T k : Nat} (h : tyK P T = some (k + 1)) : ∃ td, P.underlying T = some td ∧ td.isRow = true ∧ (P.info? T).map (·.size) = some k := by
  unfold tyK at h
  split at h
  next td i h1 h2 =>
    cases hr : td.isRow with
    | true => rw [hr] at h; simp at h; exact ⟨td, h1, hr, by rw [h2]; simpa using h⟩
    | false =>
      rw [hr] at h
      cases hb : Nat.beq i.size 1 <;> rw [hb] at h <;> simp at h
  · cases h
def isSl (P : Program) (t : Nat) : Bool := match P.underlying t with | some (.slice _) => true | _ => false
theorem isSl_ok {P : Program} {T : Nat} (h : isSl P T = true) : ∃ e, P.underlying T = some (.slice e) := by
  unfold isSl at h
  revert h
  split
  · intro _; exact ⟨_, by assumption⟩
  · intro h; cases h
def isStr (P : Program) (t : Nat) : Bool := match P.underlying t with | some .string => true | _ => false
theorem isStr_ok {P : Program} {T : Nat} (h : isStr P T = true) : P.underlying T = some .string := by
  unfold isStr at h
  revert h
  split
  · intro _; assumption
  · intro h; cases h
def isBo (P : Program) (t : Nat) : Bool := match P.underlying t with | some .bool => true | _ => false
theorem isBo_ok {P : Program} {T : Nat} (h : isBo P T = true) : P.underlying T = some .bool := by
  unfold isBo at h
  revert h
  split
  · intro _; assumption
  · intro h; cases h
def fOff (P : Program) (T f : Nat) : Option Nat :=
  match P.underlying T with
  | some (.struct fs) => match fs[f]? with
    | some F => match P.info? F.type with
      | some i => bif Nat.beq i.size 0 then none else some F.offset
      | none => none
    | none => none
  | _ => none
def zOf (P : Program) (T : Nat) : Option (Array Value) :=
  match P.info? T with
  | some t => t.zero.map (·.cells)
  | none => none
theorem zOf_parts {P : Program} {T : Nat} {zs : Array Value} (h : zOf P T = some zs) : ∃ t z, P.info? T = some t ∧ t.zero = some z ∧ z.cells = zs := by
  unfold zOf at h
  split at h
  next t ht =>
    cases hz : t.zero with
    | none => rw [hz] at h; cases h
    | some z => rw [hz] at h; exact ⟨t, z, ht, hz, Option.some.inj h⟩
  · cases h
section ops
variable {P : Program} {n : Nat} {a : Act} {w w' : World} {o : Oper}
theorem r_mv {x : Operand} {v : Value} (ho : o.op = .move x) (hx : a.eval x = v) : (execOp a.eval o).run P w = .ok (.value v) w := by
  subst hx; unfold execOp; rw [ho]; rfl
theorem r_as {x : Operand} {v : Value} (ho : o.op = .assign x) (hx : a.eval x = v) : (execOp a.eval o).run P w = .ok (.value v) w := by
  subst hx; unfold execOp; rw [ho]; rfl
theorem r_pk {c x y : Operand} {b : Bool} {v : Value} (ho : o.op = .pick c x y) (hc : a.eval c = .bool b) (hx : (if b = true then a.eval x else a.eval y) = v) : (execOp a.eval o).run P w = .ok (.value v) w := by
  subst hx; unfold execOp; rw [ho]; cases b <;> simp [hc, asBool]
theorem r_ex {x : Operand} {i : Nat} {vs : List Value} {v : Value} (ho : o.op = .extract x i) (hx : a.eval x = .tuple vs.toArray) (hi : vs[i]? = some v) : (execOp a.eval o).run P w = .ok (.value v) w := by
  unfold execOp
  simp [ho, hx, Instr.extract, hi]
theorem r_nc {x : Operand} {b : Addr} (ho : o.op = .nilCheck x) (hx : a.eval x = .pointer (some b)) : (execOp a.eval o).run P w = .ok (.value (.pointer (some b))) w := by
  unfold execOp
  simp [ho, hx]
theorem r_mf {f : Fn} {xs ys : Array Operand} {us vs : Array Value} (ho : o.op = .makeFunc f xs ys) (hx : xs.map a.eval = us) (hy : ys.map a.eval = vs) : (execOp a.eval o).run P w = .ok (.value (.func f us vs)) w := by
  unfold execOp
  simp [ho, ← hx, ← hy, Instr.makeFunc]
theorem r_fa {T f k b i : Nat} {x : Operand} (hf : fOff P T f = some k) (ho : o.op = .fieldAddr T x f) (hx : a.eval x = .pointer (some ⟨b, i, none⟩)) : (execOp a.eval o).run P w = .ok (.value (.pointer (some ⟨b, i + k, none⟩))) w := by
  unfold fOff at hf
  split at hf
  next fs hu =>
    split at hf
    next F hF =>
      split at hf
      next ti hi =>
        cases hz : Nat.beq ti.size 0 with
        | true => rw [hz] at hf; cases hf
        | false =>
          rw [hz] at hf
          cases hf
          have hz' : ti.size ≠ 0 := Nat.ne_of_beq_eq_false hz
          unfold execOp
          simp [ho, hx, Instr.fieldAt, run_underlying hu, hF, Instr.sureAddr, fieldPlace, sizeOf, typeInfo, hi, hz', Addr.add]
      · cases hf
    · cases hf
  · cases hf
theorem r_ld {T b i : Nat} {x : Operand} {v : Value} {td : TypeDesc} (hu : P.underlying T = some td) (hr : td.isRow = false) (ho : o.op = .load T x) (hx : a.eval x = .pointer (some ⟨b, i, none⟩)) (hc : w.cell? ⟨b, i, none⟩ = some v) : (execOp a.eval o).run P w = .ok (.value v) w := by
  have hagg : (isAgg T).run P w = .ok false w := by
    unfold isAgg
    rw [Sem.run_bind, run_underlying hu w]
    cases td <;> simp_all
  unfold execOp
  simp [ho, hx, Instr.loadAt, Instr.sureAddr, loadVar, hagg, hc]
theorem r_ls {T b i : Nat} {x : Operand} {vs : List Value} {td : TypeDesc} (hu : P.underlying T = some td) (hr : td.isRow = true) (hi : (P.info? T).map (·.size) = some vs.length) (ho : o.op = .load T x) (hx : a.eval x = .pointer (some ⟨b, i, none⟩)) (hc : w.rangeAt b i vs) : (execOp a.eval o).run P w = .ok (.value (.agg vs.toArray)) w := by
  have h := run_loadVar_mid (P := P) w b i T vs td hc hu hr hi
  unfold execOp
  simp [ho, hx, Instr.loadAt, Instr.sureAddr, h]
theorem r_al {T : TypeId} {zs : Array Value} {t : TypeInfo} {z : Value} (hi : P.info? T = some t) (hz : t.zero = some z) (hc : z.cells = zs) (ho : o.op = .alloc T) : (execOp a.eval o).run P w = .ok (.value (.pointer (some ⟨w.heap.size, 0, none⟩))) (w.alloc (.cells zs T)) := by
  unfold execOp
  simp [ho, Instr.alloc, zeroValue, typeInfo, hi, hz, newVar, newRow, hc]
theorem r_bx {T : TypeId} {x : Operand} {v : Value} {vs : Array Value} (ho : o.op = .box T x) (hx : a.eval x = v) (hc : v.cells = vs) : (execOp a.eval o).run P w = .ok (.value (.pointer (some ⟨w.heap.size, 0, none⟩))) (w.alloc (.cells vs T)) := by
  unfold execOp
  simp [ho, hx, Instr.box, newVar, newRow, hc]
theorem r_len {x : Operand} {t e : TypeId} {ao : Option Addr} {m c : Nat} (hu : P.underlying t = some (.slice e)) (ho : o.op = .call { callee := .builtin .len, args := #[x], argTypes := #[t] }) (hx : a.eval x = .slice ao m c) : (execOp a.eval o).run P w = .ok (.value (.int .i64 (m : Int))) w := by
  unfold execOp
  simp [ho, hx, resolve, invoke, builtin, Builtin.len_, run_underlying hu]
  rfl
theorem r_lens {x : Operand} {t : TypeId} {b : ByteArray} (hu : P.underlying t = some .string) (ho : o.op = .call { callee := .builtin .len, args := #[x], argTypes := #[t] }) (hx : a.eval x = .string b) : (execOp a.eval o).run P w = .ok (.value (.int .i64 (b.size : Int))) w := by
  unfold execOp
  simp [ho, hx, resolve, invoke, builtin, Builtin.len_, run_underlying hu]
  rfl
theorem r_not {x : Operand} {t : TypeId} {b : Bool} (ho : o.op = .unOp .not t x) (hx : a.eval x = .bool b) : (execOp a.eval o).run P w = .ok (.value (.bool (!b))) w := by
  unfold execOp
  simp only [ho, hx]
  go_simp
def cmpI (op : BinOp) (i j : Int) : Option Value :=
  match op with
  | .eql => some (.bool (decide (i = j)))
  | .neq => some (.bool (decide (¬ i = j)))
  | .lss => some (.bool (decide (i < j)))
  | .leq => some (.bool (decide (i ≤ j)))
  | .gtr => some (.bool (decide (j < i)))
  | .geq => some (.bool (decide (j ≤ i)))
  | .add => some (.int .i64 (IntKind.i64.wrap (i + j)))
  | .sub => some (.int .i64 (IntKind.i64.wrap (i - j)))
  | _ => none
theorem r_int {op : BinOp} {T : Nat} {x y : Operand} {t : TypeId} {i j : Int} {v : Value} (ho : o.op = .binOp op T x y t) (hx : a.eval x = .int .i64 i) (hy : a.eval y = .int .i64 j) (h : cmpI op i j = some v) : (execOp a.eval o).run P w = .ok (.value v) w := by
  unfold cmpI at h
  split at h
  case h_9 => cases h
  all_goals
    cases h
    unfold execOp
    simp only [ho, hx, hy]
    go_simp
    first | done | rfl
theorem eqb {T : Nat} {i j : Bool} (hu : P.underlying T = some .bool) : (Op.equal T (.bool i) (.bool j)).run P w = .ok (i == j) w := by
  unfold Op.equal Op.maxDepth Op.equalIn
  rw [Sem.run_bind, run_underlying hu]
  rfl
theorem r_boe {T : Nat} {x y : Operand} {t : TypeId} {i j : Bool} (hu : P.underlying T = some .bool) (ho : o.op = .binOp .eql T x y t) (hx : a.eval x = .bool i) (hy : a.eval y = .bool j) : (execOp a.eval o).run P w = .ok (.value (.bool (i == j))) w := by
  unfold execOp
  simp only [ho, hx, hy, eqGuard, binOp]
  simp [eqb hu]
theorem r_bon {T : Nat} {x y : Operand} {t : TypeId} {i j : Bool} (hu : P.underlying T = some .bool) (ho : o.op = .binOp .neq T x y t) (hx : a.eval x = .bool i) (hy : a.eval y = .bool j) : (execOp a.eval o).run P w = .ok (.value (.bool (!(i == j)))) w := by
  unfold execOp
  simp only [ho, hx, hy, eqGuard, binOp]
  simp [eqb hu]
end ops

def litV (v : Value) : SV := ⟨0, 0, 0, v, match v with | .bool b => bif b then 1 else 2 | _ => 0⟩
theorem litV_ok (m : Nat) (v : Value) : (litV v).ok m := by
  refine ⟨fun e => (nomatch e), ⟨fun h => ⟨rfl, ?_⟩, fun h => ⟨rfl, ?_⟩⟩, fun h => ⟨rfl, ?_⟩⟩
  all_goals
    show v = _
    unfold litV at h
    cases v with
    | bool b => cases b <;> first | rfl | (exact absurd h (by decide))
    | _ => exact (nomatch h)
theorem litV_den (bs : List Nat) (v : Value) : (litV v).den bs = v := rfl
def evS (s : List (Nat × SV)) : Operand → Option SV
  | .tmp i => s.lookup i
  | .const v => some (litV v)
  | .func f => some (vv (.func (.func f) #[] #[]))
  | .global _ => none
/-- The value of a slot that is no place in a box. -/
def plain (x : SV) : Option Value := bif isB x then none else some x.v
theorem plain_ok {x : SV} {v : Value} (h : plain x = some v) (bs : List Nat) : x.den bs = v := by
  unfold plain at h
  unfold SV.den
  cases hp : isB x with
  | true => rw [hp] at h; cases h
  | false => rw [hp] at h; simpa using h
def intV : Value → Option Int
  | .int .i64 m => some m
  | _ => none
def boolV : Value → Option Bool
  | .bool b => some b
  | _ => none
theorem intV_ok {v : Value} {m : Int} (h : intV v = some m) : v = .int .i64 m := by
  unfold intV at h
  split at h
  · cases h; rfl
  · cases h
theorem boolV_ok {v : Value} {m : Bool} (h : boolV v = some m) : v = .bool m := by
  unfold boolV at h
  split at h
  · cases h; rfl
  · cases h
def evV (s : List (Nat × SV)) (x : Operand) : Option Value := (evS s x).bind plain
def evI (s : List (Nat × SV)) (x : Operand) : Option Int := (evV s x).bind intV
def evB (s : List (Nat × SV)) (x : Operand) : Option Bool := (evV s x).bind boolV
/-- What is read of a box. -/
def ldS (P : Program) (T : Nat) (us : List Value) (i : Nat) : Option SV :=
  match tyK P T with
  | some 0 => (us[i]?).map vv
  | some (k + 1) => bif Nat.beq ((us.drop i).take k).length k then some (vv (.agg ((us.drop i).take k).toArray)) else none
  | none => none
def faS (y : SV) (e : Nat) : Option SV :=
  bif isB y then some (bx y.k (y.o + e)) else match y.v with
    | .pointer (some ⟨b, i, none⟩) => some (vv (.pointer (some ⟨b, i + e, none⟩)))
    | _ => none
def exS (y : SV) (i : Nat) : Option SV :=
  (plain y).bind fun v => match v with
    | .tuple vs => (vs.toList[i]?).map vv
    | _ => none
def ncS (y : SV) : Option SV :=
  bif isB y then some y else match y.v with
    | .pointer (some ⟨b, i, none⟩) => some (vv (.pointer (some ⟨b, i, none⟩)))
    | _ => none
def vbq (q : Nat) : SV := ⟨0, 0, 0, .bool (Nat.beq q 1), q⟩
def notS (y : SV) : Option SV :=
  match y.q with
  | 1 => some (vbq 2)
  | 2 => some (vbq 1)
  | _ => ((plain y).bind boolV).map fun b => vv (.bool (!b))
def pickS (c : SV) (x y : Option SV) : Option SV :=
  match c.q with
  | 1 => x
  | 2 => y
  | _ => ((plain c).bind boolV).bind fun b => ((x.bind plain).bind boolV).bind fun u => ((y.bind plain).bind boolV).map fun v => vv (.bool (bif b then u else v))
def cmpB (op : BinOp) (i j : Bool) : Option Value :=
  match op with
  | .eql => some (.bool (i == j))
  | .neq => some (.bool (!(i == j)))
  | _ => none
def binS (P : Program) (op : BinOp) (T : Nat) (x y : Value) : Option Value :=
  match x with
  | .int .i64 i => (intV y).bind (cmpI op i)
  | .bool b => bif isBo P T then (boolV y).bind (cmpB op b) else none
  | _ => none
def lenS (P : Program) (T : Nat) (v : Value) : Option Value :=
  match v with
  | .slice _ k _ => bif isSl P T then some (.int .i64 (k : Int)) else none
  | .string b => bif isStr P T then some (.int .i64 (b.size : Int)) else none
  | _ => none
def isLen : Callee → Bool
  | .builtin .len => true
  | _ => false
def lenC (P : Program) (s : List (Nat × SV)) (c : Call) : Option SV :=
  bif isLen c.callee then match c.args.toList, c.argTypes.toList with
    | [x], [T] => (evV s x).bind fun v => (lenS P T v).map vv
    | _, _ => none
  else none
/-- An operation that only yields a value, reckoned. -/
def pvS (P : Program) (s : List (Nat × SV)) (B : List (List Value)) : Op → Option SV
  | .move x => evS s x
  | .assign x => evS s x
  | .fieldAddr T x f => (evS s x).bind fun y => (fOff P T f).bind fun e => faS y e
  | .load T x => (evS s x).bind fun y => bif isB y then (B[y.k]?).bind fun us => ldS P T us y.o else none
  | .extract x i => (evS s x).bind fun y => exS y i
  | .nilCheck x => (evS s x).bind ncS
  | .unOp .not _ x => (evS s x).bind notS
  | .pick c x y => (evS s c).bind fun b => pickS b (evS s x) (evS s y)
  | .binOp op T x y _ => (evV s x).bind fun i => (evV s y).bind fun j => (binS P op T i j).map vv
  | .call c => lenC P s c
  | _ => none
section
variable {P : Program} {n m : Nat} {bs : List Nat} {s : List (Nat × SV)} {a : Act} {w : World} {o : Oper}
theorem evS_ok {x : Operand} {y : SV} (A : Fr n bs m s a) (h : evS s x = some y) : a.eval x = y.den bs ∧ y.ok m := by
  cases x with
  | tmp i => exact A.g i y h
  | const v => cases h; exact ⟨rfl, litV_ok m v⟩
  | func f => cases h; exact ⟨rfl, vv_ok m _⟩
  | global g => cases h
theorem evV_ok {x : Operand} {v : Value} (A : Fr n bs m s a) (h : evV s x = some v) : a.eval x = v := by
  unfold evV at h
  obtain ⟨y, h1, h2⟩ := Option.bind_eq_some_iff.1 h
  rw [(evS_ok A h1).1, plain_ok h2]
theorem evI_ok {x : Operand} {v : Int} (A : Fr n bs m s a) (h : evI s x = some v) : a.eval x = .int .i64 v := by
  unfold evI at h
  obtain ⟨y, h1, h2⟩ := Option.bind_eq_some_iff.1 h
  rw [evV_ok A h1, intV_ok h2]
theorem vbq_ok (m : Nat) : (vbq 1).ok m ∧ (vbq 2).ok m := ⟨⟨fun e => (nomatch e), ⟨fun _ => ⟨rfl, rfl⟩, fun e => (nomatch e)⟩, fun e => (nomatch e)⟩, ⟨fun e => (nomatch e), ⟨fun e => (nomatch e), fun _ => ⟨rfl, rfl⟩⟩, fun e => (nomatch e)⟩⟩
theorem qv {x : SV} (h : x.ok m) (bs : List Nat) : (x.q = 1 → x.den bs = .bool true) ∧ (x.q = 2 → x.den bs = .bool false) := by
  constructor
  · intro e
    obtain ⟨h1, h2⟩ := h.q.1 e
    unfold SV.den
    rw [h1, h2]
    rfl
  · intro e
    obtain ⟨h1, h2⟩ := h.q.2 e
    unfold SV.den
    rw [h1, h2]
    rfl
theorem plainB {y : SV} {b : Bool} (h : (plain y).bind boolV = some b) (bs : List Nat) : y.den bs = .bool b := by
  obtain ⟨v, h1, h2⟩ := Option.bind_eq_some_iff.1 h
  rw [plain_ok h1, boolV_ok h2]
theorem binS_ok {op : BinOp} {T : Nat} {x y : Operand} {t : TypeId} {i j v : Value} (ho : o.op = .binOp op T x y t) (hx : a.eval x = i) (hy : a.eval y = j) (h : binS P op T i j = some v) : (execOp a.eval o).run P w = .ok (.value v) w := by
  unfold binS at h
  split at h
  · obtain ⟨k, h1, h2⟩ := Option.bind_eq_some_iff.1 h
    rw [intV_ok h1] at hy
    exact r_int ho hx hy h2
  · next b =>
    cases hb : isBo P T with
    | false => rw [hb] at h; cases h
    | true =>
      rw [hb] at h
      obtain ⟨k, h1, h2⟩ := Option.bind_eq_some_iff.1 h
      rw [boolV_ok h1] at hy
      unfold cmpB at h2
      split at h2
      · cases h2; exact r_boe (isBo_ok hb) ho hx hy
      · cases h2; exact r_bon (isBo_ok hb) ho hx hy
      · cases h2
  · cases h
theorem lenC_ok {c : Call} {y : SV} (ho : o.op = .call c) (A : Fr n bs m s a) (h : lenC P s c = some y) : (execOp a.eval o).run P w = .ok (.value (y.den bs)) w ∧ y.ok m := by
  unfold lenC at h
  cases hl : isLen c.callee with
  | false => rw [hl] at h; cases h
  | true =>
    rw [hl] at h
    simp only [cond_true] at h
    split at h
    next x T ea et =>
      have hc : c = { callee := .builtin .len, args := #[x], argTypes := #[T] } := by
        obtain ⟨ce, ar, at'⟩ := c
        have e1 : ce = .builtin .len := by
          unfold isLen at hl
          split at hl
          · next e => exact e
          · cases hl
        have e2 : ar = #[x] := by apply Array.ext'; simpa using ea
        have e3 : at' = #[T] := by apply Array.ext'; simpa using et
        rw [e1, e2, e3]
      subst hc
      obtain ⟨v, h1, h2⟩ := Option.bind_eq_some_iff.1 h
      obtain ⟨u, h3, rfl⟩ := Option.map_eq_some_iff.1 h2
      have hx := evV_ok A h1
      refine ⟨?_, vv_ok m u⟩
      unfold lenS at h3
      split at h3
      next ao k c =>
        cases hs : isSl P T with
        | false => rw [hs] at h3; cases h3
        | true =>
          rw [hs] at h3
          cases h3
          obtain ⟨e, he⟩ := isSl_ok hs
          exact r_len he ho hx
      next b =>
        cases hs : isStr P T with
        | false => rw [hs] at h3; cases h3
        | true =>
          rw [hs] at h3
          cases h3
          exact r_lens (isStr_ok hs) ho hx
      · cases h3
    · cases h
theorem pvS_ok {B : List (List Value)} {y : SV} (A : Fr n bs m s a) (hB : ∀ k vs, B[k]? = some vs → BoxL w (bs.getD k 0) vs) (h : pvS P s B o.op = some y) : (execOp a.eval o).run P w = .ok (.value (y.den bs)) w ∧ y.ok m := by
  have key : ∀ op, o.op = op → pvS P s B op = some y → (execOp a.eval o).run P w = .ok (.value (y.den bs)) w ∧ y.ok m := by
    intro op ho h
    unfold pvS at h
    split at h
    · exact ⟨r_mv ho (evS_ok A h).1, (evS_ok A h).2⟩
    · exact ⟨r_as ho (evS_ok A h).1, (evS_ok A h).2⟩
    next T x f =>
      obtain ⟨z, h1, h2⟩ := Option.bind_eq_some_iff.1 h
      obtain ⟨e, h3, h4⟩ := Option.bind_eq_some_iff.1 h2
      obtain ⟨q1, q2⟩ := evS_ok A h1
      unfold faS at h4
      cases hp : isB z with
      | true =>
        rw [hp] at h4
        cases h4
        refine ⟨?_, bx_ok (q2.k hp)⟩
        have hx : a.eval x = .pointer (some ⟨bs.getD z.k 0, z.o, none⟩) := by rw [q1]; unfold SV.den; rw [hp]; rfl
        exact r_fa h3 ho hx
      | false =>
        rw [hp] at h4
        simp only [cond_false] at h4
        split at h4
        next b i e' =>
          cases h4
          refine ⟨?_, vv_ok m _⟩
          have hx : a.eval x = .pointer (some ⟨b, i, none⟩) := by rw [q1]; unfold SV.den; rw [hp]; exact e'
          exact r_fa h3 ho hx
        · cases h4
    next T x =>
      obtain ⟨z, h1, h2⟩ := Option.bind_eq_some_iff.1 h
      obtain ⟨q1, q2⟩ := evS_ok A h1
      cases hp : isB z with
      | false => rw [hp] at h2; cases h2
      | true =>
        rw [hp] at h2
        simp only [cond_true] at h2
        obtain ⟨us, h3, h4⟩ := Option.bind_eq_some_iff.1 h2
        have hx : a.eval x = .pointer (some ⟨bs.getD z.k 0, z.o, none⟩) := by rw [q1]; unfold SV.den; rw [hp]; rfl
        have hb := hB z.k us h3
        unfold ldS at h4
        split at h4
        next ht =>
          obtain ⟨td, u1, u2, _⟩ := tyK_cell ht
          obtain ⟨v, h5, rfl⟩ := Option.map_eq_some_iff.1 h4
          exact ⟨r_ld u1 u2 ho hx (hb.c _ _ h5), vv_ok m v⟩
        next k ht =>
          obtain ⟨td, u1, u2, u3⟩ := tyK_row ht
          cases hl : Nat.beq ((us.drop z.o).take k).length k with
          | false => rw [hl] at h4; cases h4
          | true =>
            rw [hl] at h4
            cases h4
            have hl' : ((us.drop z.o).take k).length = k := Nat.eq_of_beq_eq_true hl
            exact ⟨r_ls u1 u2 (by rw [hl']; exact u3) ho hx (hb.mid _ _ (by rw [hl'])), vv_ok m _⟩
        · cases h4
    next x i =>
      obtain ⟨z, h1, h2⟩ := Option.bind_eq_some_iff.1 h
      obtain ⟨q1, q2⟩ := evS_ok A h1
      unfold exS at h2
      obtain ⟨u, h3, h4⟩ := Option.bind_eq_some_iff.1 h2
      split at h4
      next vs =>
        obtain ⟨v, h5, rfl⟩ := Option.map_eq_some_iff.1 h4
        have hx : a.eval x = .tuple vs.toList.toArray := by rw [q1, plain_ok h3]
        exact ⟨r_ex ho hx h5, vv_ok m v⟩
      · cases h4
    next x =>
      obtain ⟨z, h1, h2⟩ := Option.bind_eq_some_iff.1 h
      obtain ⟨q1, q2⟩ := evS_ok A h1
      unfold ncS at h2
      cases hp : isB z with
      | true =>
        rw [hp] at h2
        have e : z.den bs = .pointer (some ⟨bs.getD z.k 0, z.o, none⟩) := by unfold SV.den; rw [hp]; rfl
        have ey : z = y := Option.some.inj h2
        rw [← ey]
        exact ⟨by rw [e]; exact r_nc ho (q1.trans e), q2⟩
      | false =>
        rw [hp] at h2
        simp only [cond_false] at h2
        split at h2
        next b i e' =>
          cases h2
          have hx : a.eval x = .pointer (some ⟨b, i, none⟩) := by rw [q1]; unfold SV.den; rw [hp]; exact e'
          exact ⟨r_nc ho hx, vv_ok m _⟩
        · cases h2
    next t x =>
      obtain ⟨z, h1, h2⟩ := Option.bind_eq_some_iff.1 h
      obtain ⟨q1, q2⟩ := evS_ok A h1
      obtain ⟨qt, qf⟩ := qv q2 bs
      unfold notS at h2
      split at h2
      next e => cases h2; exact ⟨r_not ho (q1.trans (qt e)), (vbq_ok m).2⟩
      next e => cases h2; exact ⟨r_not ho (q1.trans (qf e)), (vbq_ok m).1⟩
      · obtain ⟨b, h3, rfl⟩ := Option.map_eq_some_iff.1 h2
        exact ⟨r_not ho (q1.trans (plainB h3 bs)), vv_ok m _⟩
    next c x y' =>
      obtain ⟨z, h1, h2⟩ := Option.bind_eq_some_iff.1 h
      obtain ⟨q1, q2⟩ := evS_ok A h1
      obtain ⟨qt, qf⟩ := qv q2 bs
      unfold pickS at h2
      split at h2
      next e => exact ⟨r_pk ho (q1.trans (qt e)) (evS_ok A h2).1, (evS_ok A h2).2⟩
      next e => exact ⟨r_pk ho (q1.trans (qf e)) (evS_ok A h2).1, (evS_ok A h2).2⟩
      · obtain ⟨b, h3, h4⟩ := Option.bind_eq_some_iff.1 h2
        obtain ⟨u, h5, h6⟩ := Option.bind_eq_some_iff.1 h4
        obtain ⟨v, h7, rfl⟩ := Option.map_eq_some_iff.1 h6
        obtain ⟨xv, h8, h9⟩ := Option.bind_eq_some_iff.1 h5
        obtain ⟨yv, h10, h11⟩ := Option.bind_eq_some_iff.1 h7
        obtain ⟨xs, h12, h13⟩ := Option.bind_eq_some_iff.1 h8
        obtain ⟨ys, h14, h15⟩ := Option.bind_eq_some_iff.1 h10
        refine ⟨r_pk ho (q1.trans (plainB h3 bs)) ?_, vv_ok m _⟩
        have ex : a.eval x = .bool u := by rw [(evS_ok A h12).1, plain_ok h13, boolV_ok h9]
        have ey : a.eval y' = .bool v := by rw [(evS_ok A h14).1, plain_ok h15, boolV_ok h11]
        rw [ex, ey]
        cases b <;> rfl
    next op' T x y' t =>
      obtain ⟨i, h1, h2⟩ := Option.bind_eq_some_iff.1 h
      obtain ⟨j, h3, h4⟩ := Option.bind_eq_some_iff.1 h2
      obtain ⟨v, h5, rfl⟩ := Option.map_eq_some_iff.1 h4
      exact ⟨binS_ok ho (evV_ok A h1) (evV_ok A h3) h5, vv_ok m v⟩
    next c => exact lenC_ok ho A h
    · cases h
  exact key o.op rfl h
end
end En
end Go.Proofs.Ytbpmcabeghbalaa
