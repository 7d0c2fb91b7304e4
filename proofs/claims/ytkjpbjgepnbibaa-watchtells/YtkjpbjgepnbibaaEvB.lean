/- The second engine: operations reckoned. -/
import Derived.Test.YtkjpbjgepnbibaaEvA
import Derived.Laws.StructEq
namespace Go.Proofs.Ytkjpbjgepnbibaa
namespace Ev
open Go.RowKit
set_option maxRecDepth 100000

def tyK (P : Program) (T : Nat) : Option Nat :=
  match P.underlying T, P.info? T with
  | some td, some i => bif td.isRow then some (i.size + 1) else bif Nat.beq i.size 1 then some 0 else none
  | _, _ => none
theorem tyK_cell {P : Program} {T : Nat} (h : tyK P T = some 0) : ∃ td, P.underlying T = some td ∧ td.isRow = false ∧ (P.info? T).map (·.size) = some 1 := by
  unfold tyK at h
  split at h
  next td i h1 h2 =>
    cases hr : td.isRow with
    | true => rw [hr] at h; simp at h
    | false =>
      rw [hr] at h
      cases hb : Nat.beq i.size 1 with
      | false => rw [hb] at h; cases h
      | true => exact ⟨td, h1, hr, by rw [h2]; simp [Nat.eq_of_beq_eq_true hb]⟩
  · cases h
theorem tyK_row {P : Program} {T k : Nat} (h : tyK P T = some (k + 1)) : ∃ td, P.underlying T = some td ∧ td.isRow = true ∧ (P.info? T).map (·.size) = some k := by
  unfold tyK at h
  split at h
  next td i h1 h2 =>
    cases hr : td.isRow with
    | true => rw [hr] at h; simp at h; exact ⟨td, h1, hr, by rw [h2]; simpa using h⟩
    | false =>
      rw [hr] at h
      cases hb : Nat.beq i.size 1 <;> rw [hb] at h <;> simp at h
  · cases h
def isSl (P : Program) (t : Nat) : Bool := match P.underlying t with | some (.slice _) => true | _ => false
theorem isSl_ok {P : Program} {T : Nat} (h : isSl P T = true) : ∃ e, P.underlying T = some (.slice e) := by
  unfold isSl at h
  revert h
  split
  · intro _; exact ⟨_, by assumption⟩
  · intro h; cases h
def isStr (P : Program) (t : Nat) : Bool := match P.underlying t with | some .string => true | _ => false
theorem isStr_ok {P : Program} {T : Nat} (h : isStr P T = true) : P.underlying T = some .string := by
  unfold isStr at h
  revert h
  split
  · intro _; assumption
  · intro h; cases h
def isBo (P : Program) (t : Nat) : Bool := match P.underlying t with | some .bool => true | _ => false
theorem isBo_ok {P : Program} {T : Nat} (h : isBo P T = true) : P.underlying T = some .bool := by
  unfold isBo at h
  revert h
  split
  · intro _; assumption
  · intro h; cases h
def fOff (P : Program) (T f : Nat) : Option Nat :=
  match P.underlying T with
  | some (.struct fs) => match fs[f]? with
    | some F => match P.info? F.type with
      | some i => bif Nat.beq i.size 0 then none else some F.offset
      | none => none
    | none => none
  | _ => none
def zOf (P : Program) (T : Nat) : Option (Array Value) :=
  match P.info? T with
  | some t => t.zero.map (·.cells)
  | none => none
theorem zOf_parts {P : Program} {T : Nat} {zs : Array Value} (h : zOf P T = some zs) : ∃ t z, P.info? T = some t ∧ t.zero = some z ∧ z.cells = zs := by
  unfold zOf at h
  split at h
  next t ht =>
    cases hz : t.zero with
    | none => rw [hz] at h; cases h
    | some z => rw [hz] at h; exact ⟨t, z, ht, hz, Option.some.inj h⟩
  · cases h
section ops
variable {P : Program} {n : Nat} {a : Act} {w w' : World} {o : Oper}
theorem r_mv {x : Operand} {v : Value} (ho : o.op = .move x) (hx : a.eval x = v) : (execOp a.eval o).run P w = .ok (.value v) w := by
  subst hx; unfold execOp; rw [ho]; rfl
theorem r_as {x : Operand} {v : Value} (ho : o.op = .assign x) (hx : a.eval x = v) : (execOp a.eval o).run P w = .ok (.value v) w := by
  subst hx; unfold execOp; rw [ho]; rfl
theorem r_pk {c x y : Operand} {b : Bool} {v : Value} (ho : o.op = .pick c x y) (hc : a.eval c = .bool b) (hx : (if b = true then a.eval x else a.eval y) = v) : (execOp a.eval o).run P w = .ok (.value v) w := by
  subst hx; unfold execOp; rw [ho]; cases b <;> simp [hc, asBool]
theorem r_ex {x : Operand} {i : Nat} {vs : List Value} {v : Value} (ho : o.op = .extract x i) (hx : a.eval x = .tuple vs.toArray) (hi : vs[i]? = some v) : (execOp a.eval o).run P w = .ok (.value v) w := by
  unfold execOp
  simp [ho, hx, Instr.extract, hi]
theorem r_nc {x : Operand} {b : Addr} (ho : o.op = .nilCheck x) (hx : a.eval x = .pointer (some b)) : (execOp a.eval o).run P w = .ok (.value (.pointer (some b))) w := by
  unfold execOp
  simp [ho, hx]
theorem r_mf {f : Fn} {xs ys : Array Operand} {us vs : Array Value} (ho : o.op = .makeFunc f xs ys) (hx : xs.map a.eval = us) (hy : ys.map a.eval = vs) : (execOp a.eval o).run P w = .ok (.value (.func f us vs)) w := by
  unfold execOp
  simp [ho, ← hx, ← hy, Instr.makeFunc]
theorem r_fa {T f k b i : Nat} {x : Operand} (hf : fOff P T f = some k) (ho : o.op = .fieldAddr T x f) (hx : a.eval x = .pointer (some ⟨b, i, none⟩)) : (execOp a.eval o).run P w = .ok (.value (.pointer (some ⟨b, i + k, none⟩))) w := by
  unfold fOff at hf
  split at hf
  next fs hu =>
    split at hf
    next F hF =>
      split at hf
      next ti hi =>
        cases hz : Nat.beq ti.size 0 with
        | true => rw [hz] at hf; cases hf
        | false =>
          rw [hz] at hf
          cases hf
          have hz' : ti.size ≠ 0 := Nat.ne_of_beq_eq_false hz
          unfold execOp
          simp [ho, hx, Instr.fieldAt, run_underlying hu, hF, Instr.sureAddr, fieldPlace, sizeOf, typeInfo, hi, hz', Addr.add]
      · cases hf
    · cases hf
  · cases hf
theorem r_ld {T b i : Nat} {x : Operand} {v : Value} {td : TypeDesc} (hu : P.underlying T = some td) (hr : td.isRow = false) (ho : o.op = .load T x) (hx : a.eval x = .pointer (some ⟨b, i, none⟩)) (hc : w.cell? ⟨b, i, none⟩ = some v) : (execOp a.eval o).run P w = .ok (.value v) w := by
  have hagg : (isAgg T).run P w = .ok false w := by
    unfold isAgg
    rw [Sem.run_bind, run_underlying hu w]
    cases td <;> simp_all
  unfold execOp
  simp [ho, hx, Instr.loadAt, Instr.sureAddr, loadVar, hagg, hc]
theorem r_ls {T b i : Nat} {x : Operand} {vs : List Value} {td : TypeDesc} (hu : P.underlying T = some td) (hr : td.isRow = true) (hi : (P.info? T).map (·.size) = some vs.length) (ho : o.op = .load T x) (hx : a.eval x = .pointer (some ⟨b, i, none⟩)) (hc : w.rangeAt b i vs) : (execOp a.eval o).run P w = .ok (.value (.agg vs.toArray)) w := by
  have h := run_loadVar_mid (P := P) w b i T vs td hc hu hr hi
  unfold execOp
  simp [ho, hx, Instr.loadAt, Instr.sureAddr, h]
theorem r_al {T : TypeId} {zs : Array Value} {t : TypeInfo} {z : Value} (hi : P.info? T = some t) (hz : t.zero = some z) (hc : z.cells = zs) (ho : o.op = .alloc T) : (execOp a.eval o).run P w = .ok (.value (.pointer (some ⟨w.heap.size, 0, none⟩))) (w.alloc (.cells zs T)) := by
  unfold execOp
  simp [ho, Instr.alloc, zeroValue, typeInfo, hi, hz, newVar, newRow, hc]
theorem r_bx {T : TypeId} {x : Operand} {v : Value} {vs : Array Value} (ho : o.op = .box T x) (hx : a.eval x = v) (hc : v.cells = vs) : (execOp a.eval o).run P w = .ok (.value (.pointer (some ⟨w.heap.size, 0, none⟩))) (w.alloc (.cells vs T)) := by
  unfold execOp
  simp [ho, hx, Instr.box, newVar, newRow, hc]
theorem r_len {x : Operand} {t e : TypeId} {ao : Option Addr} {m c : Nat} (hu : P.underlying t = some (.slice e)) (ho : o.op = .call { callee := .builtin .len, args := #[x], argTypes := #[t] }) (hx : a.eval x = .slice ao m c) : (execOp a.eval o).run P w = .ok (.value (.int .i64 (m : Int))) w := by
  unfold execOp
  simp [ho, hx, resolve, invoke, builtin, Builtin.len_, run_underlying hu]
  rfl
theorem r_lens {x : Operand} {t : TypeId} {b : ByteArray} (hu : P.underlying t = some .string) (ho : o.op = .call { callee := .builtin .len, args := #[x], argTypes := #[t] }) (hx : a.eval x = .string b) : (execOp a.eval o).run P w = .ok (.value (.int .i64 (b.size : Int))) w := by
  unfold execOp
  simp [ho, hx, resolve, invoke, builtin, Builtin.len_, run_underlying hu]
  rfl
theorem r_not {x : Operand} {t : TypeId} {b : Bool} (ho : o.op = .unOp .not t x) (hx : a.eval x = .bool b) : (execOp a.eval o).run P w = .ok (.value (.bool (!b))) w := by
  unfold execOp
  simp only [ho, hx]
  go_simp
def cmpI (op : BinOp) (i j : Int) : Option Value :=
  match op with
  | .eql => some (.bool (decide (i = j)))
  | .neq => some (.bool (decide (¬ i = j)))
  | .lss => some (.bool (decide (i < j)))
  | .leq => some (.bool (decide (i ≤ j)))
  | .gtr => some (.bool (decide (j < i)))
  | .geq => some (.bool (decide (j ≤ i)))
  | .add => some (.int .i64 (IntKind.i64.wrap (i + j)))
  | .sub => some (.int .i64 (IntKind.i64.wrap (i - j)))
  | _ => none
theorem r_int {op : BinOp} {T : Nat} {x y : Operand} {t : TypeId} {i j : Int} {v : Value} (ho : o.op = .binOp op T x y t) (hx : a.eval x = .int .i64 i) (hy : a.eval y = .int .i64 j) (h : cmpI op i j = some v) : (execOp a.eval o).run P w = .ok (.value v) w := by
  unfold cmpI at h
  split at h
  case h_9 => cases h
  all_goals
    cases h
    unfold execOp
    simp only [ho, hx, hy]
    go_simp
    first | done | rfl
theorem eqb {T : Nat} {i j : Bool} (hu : P.underlying T = some .bool) : (Op.equal T (.bool i) (.bool j)).run P w = .ok (i == j) w := by
  unfold Op.equal Op.maxDepth Op.equalIn
  rw [Sem.run_bind, run_underlying hu]
  rfl
theorem r_boe {T : Nat} {x y : Operand} {t : TypeId} {i j : Bool} (hu : P.underlying T = some .bool) (ho : o.op = .binOp .eql T x y t) (hx : a.eval x = .bool i) (hy : a.eval y = .bool j) : (execOp a.eval o).run P w = .ok (.value (.bool (i == j))) w := by
  unfold execOp
  simp only [ho, hx, hy, eqGuard, binOp]
  simp [eqb hu]
theorem r_bon {T : Nat} {x y : Operand} {t : TypeId} {i j : Bool} (hu : P.underlying T = some .bool) (ho : o.op = .binOp .neq T x y t) (hx : a.eval x = .bool i) (hy : a.eval y = .bool j) : (execOp a.eval o).run P w = .ok (.value (.bool (!(i == j)))) w := by
  unfold execOp
  simp only [ho, hx, hy, eqGuard, binOp]
  simp [eqb hu]
end ops


def litV (v : Value) : SV :=
  match v with
  | .int .i64 n => .num n
  | .bool b => .bit b
  | x => .val x
theorem litV_den (bs : List Blk) (v : Value) : (litV v).den bs = v := by
  unfold litV
  split <;> simp only [SV.den]
theorem litV_ok (m : Nat) (v : Value) : okB m (litV v) = true := by
  unfold litV
  split <;> simp only [okB]
theorem denL_lit (bs : List Blk) : ∀ l : List Value, denL bs (l.map litV) = l
  | [] => by simp [denL]
  | x :: r => by rw [List.map_cons, denL, denL_lit bs r, litV_den]
theorem okL_lit (m : Nat) (l : List Value) : okL m (l.map litV) = true := by
  rw [okL_all]
  intro z hz
  obtain ⟨y, _, rfl⟩ := List.mem_map.1 hz
  exact litV_ok m y
def evS (s : List (Nat × SV)) : Operand → Option SV
  | .tmp i => s.lookup i
  | .const v => some (litV v)
  | .func f => some (.fn (.func f) [] [])
  | .global _ => none
mutual
/-- The value of what names no box. -/
def plain : SV → Option Value
  | .val x => some x
  | .num n => some (.int .i64 n)
  | .bit b => some (.bool b)
  | .agg l => match plainL l with
    | some vs => some (.agg vs.toArray)
    | none => none
  | .tup l => match plainL l with
    | some vs => some (.tuple vs.toArray)
    | none => none
  | .fn g x y => match plainL x, plainL y with
    | some us, some vs => some (.func g us.toArray vs.toArray)
    | _, _ => none
  | _ => none
def plainL : List SV → Option (List Value)
  | [] => some []
  | x :: r => match plain x, plainL r with
    | some v, some vs => some (v :: vs)
    | _, _ => none
end
mutual
theorem plain_ok {bs : List Blk} : ∀ {x : SV} {v : Value}, plain x = some v → x.den bs = v
  | .val x, v, h => by
    simp only [plain, Option.some.injEq] at h
    simp only [SV.den, h]
  | .num n, v, h => by
    simp only [plain, Option.some.injEq] at h
    simp only [SV.den, h]
  | .bit n, v, h => by
    simp only [plain, Option.some.injEq] at h
    simp only [SV.den, h]
  | .agg l, v, h => by
    simp only [plain] at h
    split at h
    next vs e =>
      cases h
      simp only [SV.den]
      rw [plainL_ok e]
    · cases h
  | .tup l, v, h => by
    simp only [plain] at h
    split at h
    next vs e =>
      cases h
      simp only [SV.den]
      rw [plainL_ok e]
    · cases h
  | .fn g x y, v, h => by
    simp only [plain] at h
    split at h
    next us vs e1 e2 =>
      cases h
      simp only [SV.den]
      rw [plainL_ok e1, plainL_ok e2]
    · cases h
  | .non, v, h => by simp only [plain] at h; cases h
  | .ptr _ _, v, h => by simp only [plain] at h; cases h
  | .row _ _, v, h => by simp only [plain] at h; cases h
theorem plainL_ok {bs : List Blk} : ∀ {l : List SV} {vs : List Value}, plainL l = some vs → denL bs l = vs
  | [], vs, h => by
    simp only [plainL, Option.some.injEq] at h
    simp only [denL, h]
  | x :: r, vs, h => by
    simp only [plainL] at h
    split at h
    next u us e1 e2 =>
      cases h
      simp only [denL]
      rw [plain_ok e1, plainL_ok e2]
    · cases h
end
def intV : Value → Option Int
  | .int .i64 m => some m
  | _ => none
def intS : SV → Option Int
  | .num n => some n
  | .val v => intV v
  | _ => none
def boolS : SV → Option Bool
  | .bit b => some b
  | .val v => match v with
    | .bool b => some b
    | _ => none
  | _ => none
theorem intS_ok {x : SV} {n : Int} (h : intS x = some n) (bs : List Blk) : x.den bs = .int .i64 n := by
  unfold intS at h
  split at h
  · cases h; simp only [SV.den]
  · unfold intV at h
    split at h
    · cases h; simp only [SV.den]
    · cases h
  · cases h
theorem boolS_ok {x : SV} {b : Bool} (h : boolS x = some b) (bs : List Blk) : x.den bs = .bool b := by
  unfold boolS at h
  split at h
  · cases h; simp only [SV.den]
  · split at h
    · cases h; simp only [SV.den]
    · cases h
  · cases h
/-- A value's cells. -/
def cellsS : SV → Option (List SV)
  | .agg l => some l
  | .val v => match v with
    | .agg vs => some (vs.toList.map .val)
    | .tuple _ => none
    | u => some [.val u]
  | .tup _ => none
  | .non => none
  | x => some [x]
theorem cellsS_ok {x : SV} {l : List SV} {m : Nat} (h : cellsS x = some l) (bs : List Blk) (hx : okB m x = true) : (x.den bs).cells = (denL bs l).toArray ∧ okL m l = true := by
  cases x with
  | agg r =>
    cases h
    exact ⟨by simp only [SV.den, Value.cells], by simpa only [okB] using hx⟩
  | val v =>
    cases v with
    | agg vs =>
      cases h
      refine ⟨?_, okL_v _ _⟩
      rw [denL_v]
      simp only [SV.den, Value.cells]
    | tuple vs => cases h
    | _ =>
      cases h
      exact ⟨by simp only [SV.den, denL, Value.cells], by simp only [okL, okB, Bool.and_self]⟩
  | tup r => cases h
  | non => cases h
  | _ =>
    cases h
    exact ⟨by simp only [SV.den, denL, Value.cells], by simp only [okL, hx, Bool.and_self]⟩
/-- What is read of a box. -/
def ldS (P : Program) (T : Nat) (us : List SV) (i : Nat) : Option SV :=
  match tyK P T with
  | some 0 => us[i]?
  | some (k + 1) => bif Nat.beq ((us.drop i).take k).length k then some (.agg ((us.drop i).take k)) else none
  | none => none
def faS (y : SV) (e : Nat) : Option SV :=
  match y with
  | .ptr k o => some (.ptr k (o + e))
  | .val v => match v with
    | .pointer (some ⟨b, i, none⟩) => some (.val (.pointer (some ⟨b, i + e, none⟩)))
    | _ => none
  | _ => none
def exS (y : SV) (i : Nat) : Option SV :=
  match y with
  | .tup l => l[i]?
  | .val v => match v with
    | .tuple vs => (vs.toList[i]?).map .val
    | _ => none
  | _ => none
def ncS (y : SV) : Option SV :=
  match y with
  | .ptr k o => some (.ptr k o)
  | .val v => match v with
    | .pointer (some a) => some (.val (.pointer (some a)))
    | .func (.func g) x z => some (.val (.func (.func g) x z))
    | _ => none
  | .fn (.func g) x z => some (.fn (.func g) x z)
  | _ => none
def notS (y : SV) : Option SV :=
  match y with
  | .bit b => some (.bit (!b))
  | _ => (boolS y).map fun b => .val (.bool (!b))
def pickS (c : SV) (x y : Option SV) : Option SV :=
  match c with
  | .bit b => match b with
    | true => x
    | false => y
  | _ => (boolS c).bind fun b => (x.bind boolS).bind fun u => (y.bind boolS).map fun v => .val (.bool (bif b then u else v))
def cmpB (op : BinOp) (i j : Bool) : Option Value :=
  match op with
  | .eql => some (.bool (i == j))
  | .neq => some (.bool (!(i == j)))
  | _ => none
def isNum : SV → Bool
  | .num _ => true
  | .bit _ => true
  | _ => false
/-- What is reckoned of known values is known. -/
def knowS (k : Bool) (v : Value) : SV := bif k then litV v else .val v
theorem knowS_den (k : Bool) (v : Value) (bs : List Blk) : (knowS k v).den bs = v := by
  cases k with
  | true => exact litV_den bs v
  | false => simp only [knowS, cond_false, SV.den]
theorem knowS_ok (k : Bool) (v : Value) (m : Nat) : okB m (knowS k v) = true := by
  cases k with
  | true => exact litV_ok m v
  | false => simp only [knowS, cond_false, okB]
def strS : SV → Option ByteArray
  | .val v => match v with
    | .string b => some b
    | _ => none
  | _ => none
def binS (P : Program) (op : BinOp) (T : Nat) (x y : SV) : Option SV :=
  match intS x with
  | some i => (intS y).bind fun j => (cmpI op i j).map (knowS (isNum x && isNum y))
  | none => match boolS x with
    | some b => bif isBo P T then (boolS y).bind fun c => (cmpB op b c).map (knowS (isNum x && isNum y)) else none
    | none => none
def lenS (P : Program) (T : Nat) (v : SV) : Option SV :=
  match v with
  | .row _ n => bif isSl P T then some (vi (n : Int)) else none
  | .val x => match x with
    | .slice _ k _ => bif isSl P T then some (vi (k : Int)) else none
    | .string b => bif isStr P T then some (vi (b.size : Int)) else none
    | _ => none
  | _ => none
def isLen : Callee → Bool
  | .builtin .len => true
  | _ => false
def lenC (P : Program) (s : List (Nat × SV)) (c : Call) : Option SV :=
  bif isLen c.callee then match c.args.toList, c.argTypes.toList with
    | [x], [T] => (evS s x).bind fun v => lenS P T v
    | _, _ => none
  else none
def argsS (s : List (Nat × SV)) : List Operand → Option (List SV)
  | [] => some []
  | x :: r => (evS s x).bind fun v => (argsS s r).map fun l => v :: l
def plS (P : Program) : List Field → Option (List (Nat × Nat))
  | [] => some []
  | f :: r => match P.info? f.type with
    | some i => (plS P r).map fun l => (f.offset, i.size) :: l
    | none => none
def partsS (s : List (Nat × SV)) : List (Nat × Operand) → Option (List (Nat × SV))
  | [] => some []
  | p :: r => (evS s p.2).bind fun v => (partsS s r).map fun l => (p.1, v) :: l
def fillS (pl : List (Nat × Nat)) : List SV → List (Nat × SV) → Option (List SV)
  | cs, [] => some cs
  | cs, p :: r => match pl[p.1]? with
    | some q => (cellsS p.2).bind fun vs => bif Nat.beq vs.length q.2 && Nat.ble (q.1 + vs.length) cs.length then fillS pl (cs.take q.1 ++ vs ++ cs.drop (q.1 + vs.length)) r else none
    | none => none
/-- A struct that is laid. -/
def buildS (P : Program) (T : Nat) (s : List (Nat × SV)) (ps : List (Nat × Operand)) : Option SV :=
  match P.underlying T with
  | some (.struct fs) => (plS P fs.toList).bind fun pl => (zOf P T).bind fun zs => (partsS s ps).bind fun qs => (fillS pl (zs.toList.map litV) qs).map .agg
  | _ => none
/-- A field of a struct that is a value. -/
def fieldS (P : Program) (T : Nat) (x : SV) (f : Nat) : Option SV :=
  match P.underlying T with
  | some (.struct fs) => (fs[f]?).bind fun F => match x with
    | .agg l => ldS P F.type l F.offset
    | .val v => match v with
      | .agg vs => ldS P F.type (vs.toList.map .val) F.offset
      | _ => none
    | _ => none
  | _ => none
def mkfS (g : Fn) (x y : Option (List SV)) : Option SV := x.bind fun l => y.map fun r => .fn g l r
/-- An operation that only yields a value, reckoned. -/
def pvS (P : Program) (s : List (Nat × SV)) (B : List Bx) : Op → Option SV
  | .move x => evS s x
  | .assign x => evS s x
  | .fieldAddr T x f => (evS s x).bind fun y => (fOff P T f).bind fun e => faS y e
  | .load T x => (evS s x).bind fun y => match y with
    | .ptr k o => match B[k]? with
      | some (.cells us) => ldS P T us o
      | _ => none
    | _ => none
  | .extract x i => (evS s x).bind fun y => exS y i
  | .nilCheck x => (evS s x).bind ncS
  | .unOp .not _ x => (evS s x).bind notS
  | .pick c x y => (evS s c).bind fun b => pickS b (evS s x) (evS s y)
  | .binOp op T x y _ => (evS s x).bind fun i => (evS s y).bind fun j => binS P op T i j
  | .call c => lenC P s c
  | .build T ps => buildS P T s ps.toList
  | .field T x f => (evS s x).bind fun y => fieldS P T y f
  | .makeFunc g x y => mkfS g (argsS s x.toList) (argsS s y.toList)
  | _ => none
section
variable {P : Program} {n : Nat} {bs : List Blk} {s : List (Nat × SV)} {a : Act} {w : World} {o : Oper}
theorem evS_ok {x : Operand} {y : SV} (A : Fr n bs s a) (h : evS s x = some y) : a.eval x = y.den bs ∧ okB bs.length y = true := by
  cases x with
  | tmp i => exact A.g i y h
  | const v => cases h; exact ⟨(litV_den bs v).symm, litV_ok _ v⟩
  | func f => cases h; exact ⟨by simp only [SV.den, denL]; rfl, by simp only [okB, okL, Bool.and_self]⟩
  | global g => cases h
theorem argsS_ok (A : Fr n bs s a) : ∀ {xs : List Operand} {vs : List SV}, argsS s xs = some vs → xs.map a.eval = denL bs vs ∧ okL bs.length vs = true
  | [], vs, h => by cases h; exact ⟨by simp only [List.map_nil, denL], by simp only [okL]⟩
  | x :: r, vs, h => by
    obtain ⟨v, h1, h2⟩ := Option.bind_eq_some_iff.1 h
    obtain ⟨l, h3, rfl⟩ := Option.map_eq_some_iff.1 h2
    obtain ⟨e1, e2⟩ := evS_ok A h1
    obtain ⟨e3, e4⟩ := argsS_ok A h3
    exact ⟨by rw [List.map_cons, e1, e3, denL], by simp only [okL, e2, e4, Bool.and_self]⟩
theorem partsS_ok (A : Fr n bs s a) : ∀ {ps : List (Nat × Operand)} {qs : List (Nat × SV)}, partsS s ps = some qs → (ps.map fun p => (p.1, a.eval p.2)) = (qs.map fun p => (p.1, p.2.den bs)) ∧ ∀ q ∈ qs, okB bs.length q.2 = true
  | [], qs, h => by cases h; exact ⟨rfl, by simp⟩
  | p :: r, qs, h => by
    obtain ⟨v, h1, h2⟩ := Option.bind_eq_some_iff.1 h
    obtain ⟨l, h3, rfl⟩ := Option.map_eq_some_iff.1 h2
    obtain ⟨e1, e2⟩ := evS_ok A h1
    obtain ⟨e3, e4⟩ := partsS_ok A h3
    refine ⟨by rw [List.map_cons, List.map_cons, e1, e3], fun q hq => ?_⟩
    rcases List.mem_cons.1 hq with rfl | hq
    · exact e2
    · exact e4 q hq
theorem splice_eq : ∀ (vs : List Value) (o j : Nat) (cs : Array Value), o + j + vs.length ≤ cs.size →
    (vs.zipIdx j).foldl (fun cs p => cs.setIfInBounds (o + p.2) p.1) cs = (cs.toList.take (o + j) ++ vs ++ cs.toList.drop (o + j + vs.length)).toArray
  | [], o, j, cs, h => by simp
  | v :: r, o, j, cs, h => by
    rw [List.length_cons] at h
    rw [List.zipIdx_cons, List.foldl_cons, splice_eq r o (j + 1) _ (by simp only [Array.size_setIfInBounds]; omega)]
    have hlt : o + j < cs.toList.length := by simp; omega
    simp only [Array.toList_setIfInBounds, List.length_cons]
    rw [show o + (j + 1) = o + j + 1 by omega, show o + j + 1 + r.length = o + j + (r.length + 1) by omega, List.drop_set_of_lt (by omega), List.take_succ_eq_append_getElem (by rw [List.length_set]; omega), List.getElem_set_self, List.take_set_of_le (Nat.le_refl _)]
    simp
theorem fillS_ok (pl : List (Nat × Nat)) (bs : List Blk) : ∀ {qs : List (Nat × SV)} {cs l : List SV}, fillS pl cs qs = some l → okL bs.length cs = true → (∀ q ∈ qs, okB bs.length q.2 = true) →
    Instr.fill (fun i => pl.toArray[i]?) (denL bs cs).toArray (qs.map fun p => (p.1, p.2.den bs)) = some (denL bs l).toArray ∧ okL bs.length l = true
  | [], cs, l, h, hc, _ => by
    cases h
    exact ⟨rfl, hc⟩
  | q :: r, cs, l, h, hc, hq => by
    unfold fillS at h
    split at h
    next z hz =>
      obtain ⟨vs, h1, h2⟩ := Option.bind_eq_some_iff.1 h
      cases hb : (Nat.beq vs.length z.2 && Nat.ble (z.1 + vs.length) cs.length) with
      | false => rw [hb] at h2; cases h2
      | true =>
        rw [hb] at h2
        simp only [cond_true] at h2
        obtain ⟨b1, b2⟩ := Bool.and_eq_true_iff.1 hb
        have b1 := Nat.eq_of_beq_eq_true b1
        have b2 := Nat.le_of_ble_eq_true b2
        obtain ⟨c1, c2⟩ := cellsS_ok h1 bs (hq q (List.mem_cons_self ..))
        obtain ⟨d1, d2⟩ := fillS_ok pl bs h2 (okL_app (okL_app (okL_take hc) c2) (okL_drop hc)) fun x hx => hq x (List.mem_cons_of_mem _ hx)
        refine ⟨?_, d2⟩
        rw [List.map_cons]
        unfold Instr.fill
        have hz' : pl.toArray[q.1]? = some z := by simpa using hz
        simp only [hz']
        obtain ⟨z1, z2⟩ := z
        simp only at b1 b2 d1 ⊢
        rw [c1]
        have hl : (denL bs vs).toArray.size = vs.length := by simp [denL_len]
        have hs : (denL bs cs).toArray.size = cs.length := by simp [denL_len]
        rw [hl, hs, if_neg (by simp [b1]; omega)]
        have e := splice_eq (denL bs vs) z1 0 (denL bs cs).toArray (by rw [denL_len, hs]; omega)
        simp only [Nat.add_zero, denL_len] at e
        have e' : Array.foldl (fun cs x => cs.setIfInBounds (z1 + x.2) x.1) (denL bs cs).toArray (denL bs vs).toArray.zipIdx = (List.foldl (fun cs p => cs.setIfInBounds (z1 + p.2) p.1) (denL bs cs).toArray ((denL bs vs).zipIdx 0)) := by simp
        rw [e', e, ← d1, denL_app2, denL_app2, denL_take, denL_drop]
    · cases h
theorem run_places {F : Field → Sem (Nat × Nat)} (hF : ∀ f i, P.info? f.type = some i → (F f).run P w = .ok (f.offset, i.size) w) : ∀ {fs : List Field} {pl : List (Nat × Nat)}, plS P fs = some pl → (fs.mapM F).run P w = .ok pl w
  | [], pl, h => by cases h; rfl
  | f :: r, pl, h => by
    unfold plS at h
    split at h
    next i hi =>
      obtain ⟨l, h1, rfl⟩ := Option.map_eq_some_iff.1 h
      have h2 := run_places hF h1
      rw [List.mapM_cons]
      simp only [Sem.run_bind, Sem.run_pure, hF f i hi, h2, Result.andThen_ok]
    · cases h
theorem buildS_ok {T : Nat} {ps : Array (Nat × Operand)} {y : SV} (A : Fr n bs s a) (ho : o.op = .build T ps) (h : buildS P T s ps.toList = some y) : (execOp a.eval o).run P w = .ok (.value (y.den bs)) w ∧ okB bs.length y = true := by
  unfold buildS at h
  split at h
  next fs hu =>
    obtain ⟨pl, h1, h2⟩ := Option.bind_eq_some_iff.1 h
    obtain ⟨zs, h3, h4⟩ := Option.bind_eq_some_iff.1 h2
    obtain ⟨qs, h5, h6⟩ := Option.bind_eq_some_iff.1 h4
    obtain ⟨l, h7, rfl⟩ := Option.map_eq_some_iff.1 h6
    obtain ⟨t, z, i1, i2, i3⟩ := zOf_parts h3
    obtain ⟨e1, e2⟩ := partsS_ok A h5
    obtain ⟨f1, f2⟩ := fillS_ok pl bs h7 (okL_lit _ _) e2
    rw [denL_lit] at f1
    refine ⟨?_, by simpa only [okB] using f2⟩
    unfold execOp
    have hp : (ps.map fun x => (x.1, a.eval x.2)).toList = qs.map fun p => (p.1, p.2.den bs) := by rw [← e1]; simp
    have hf : Instr.fill (fun i => pl.toArray[i]?) z.cells (ps.map fun x => (x.1, a.eval x.2)).toList = some (denL bs l).toArray := by rw [hp, i3]; simpa using f1
    simp only [ho, Instr.build]
    have hm2 : ∀ F : Field → Sem (Nat × Nat), (∀ f i, P.info? f.type = some i → (F f).run P w = .ok (f.offset, i.size) w) → (Array.mapM F fs).run P w = .ok pl.toArray w := fun F hF => by
      have := run_places hF h1
      rw [Array.mapM_eq_mapM_toList]
      simp [this]
    have hz : (zeroValue T).run P w = .ok z w := by simp [zeroValue, typeInfo, i1, i2]
    have hm3 := hm2 (fun f => do pure (f.offset, ← sizeOf f.type)) (fun f i hi => by simp [sizeOf, typeInfo, hi])
    simp only [Sem.run_bind, hz, run_underlying hu, Result.andThen_ok]
    rw [hm3, Result.andThen_ok, hf]
    simp only [Sem.run_pure, Result.andThen_ok, SV.den]
  · cases h
theorem ldS_ok {T i : Nat} {us : List SV} {y : SV} {b : Nat} {x : Operand} (h : ldS P T us i = some y) (hu : okL bs.length us = true) (hb : BoxL w b (denL bs us)) (ho : o.op = .load T x) (hx : a.eval x = .pointer (some ⟨b, i, none⟩)) : (execOp a.eval o).run P w = .ok (.value (y.den bs)) w ∧ okB bs.length y = true := by
  unfold ldS at h
  split at h
  next ht =>
    obtain ⟨td, u1, u2, _⟩ := tyK_cell ht
    exact ⟨r_ld u1 u2 ho hx (hb.c _ _ (by rw [denL_at, h]; rfl)), okL_at hu h⟩
  next k ht =>
    obtain ⟨td, u1, u2, u3⟩ := tyK_row ht
    cases hl : Nat.beq ((us.drop i).take k).length k with
    | false => rw [hl] at h; cases h
    | true =>
      rw [hl] at h
      cases h
      have hl' : ((us.drop i).take k).length = k := Nat.eq_of_beq_eq_true hl
      have hd : (denL bs ((us.drop i).take k)).length = k := by rw [denL_len]; exact hl'
      refine ⟨?_, by simp only [okB]; exact okL_take (okL_drop hu)⟩
      have := r_ls (vs := denL bs ((us.drop i).take k)) u1 u2 (by rw [hd]; exact u3) ho hx (hb.mid _ _ (by rw [hd, denL_take, denL_drop]))
      simpa only [SV.den] using this
  · cases h
theorem fieldS_run {T f : Nat} {x : Operand} {fs : Array Field} {F : Field} {l : List SV} {y : SV} (hu : P.underlying T = some (.struct fs)) (hF : fs[f]? = some F) (ho : o.op = .field T x f) (hx : a.eval x = .agg (denL bs l).toArray) (hl : okL bs.length l = true) (h : ldS P F.type l F.offset = some y) : (execOp a.eval o).run P w = .ok (.value (y.den bs)) w ∧ okB bs.length y = true := by
  unfold ldS at h
  split at h
  next ht =>
    obtain ⟨td, u1, u2, _⟩ := tyK_cell ht
    refine ⟨?_, okL_at hl h⟩
    have hagg : (isAgg F.type).run P w = .ok false w := by
      unfold isAgg
      rw [Sem.run_bind, run_underlying u1 w]
      cases td <;> simp_all
    have hc : (denL bs l).toArray[F.offset]? = some (y.den bs) := by
      have : (denL bs l)[F.offset]? = some (y.den bs) := by rw [denL_at, h]; rfl
      simpa using this
    unfold execOp
    simp only [ho, Instr.field, Sem.run_bind, run_underlying hu, Result.andThen_ok, hF, hx, asAgg, Sem.run_pure, part, hagg]
    simp [hc]
  next k ht =>
    obtain ⟨td, u1, u2, u3⟩ := tyK_row ht
    cases hb : Nat.beq ((l.drop F.offset).take k).length k with
    | false => rw [hb] at h; cases h
    | true =>
      rw [hb] at h
      cases h
      refine ⟨?_, by simp only [okB]; exact okL_take (okL_drop hl)⟩
      have hagg : (isAgg F.type).run P w = .ok true w := by
        unfold isAgg
        rw [Sem.run_bind, run_underlying u1 w]
        cases td <;> simp_all
      have hs : (sizeOf F.type).run P w = .ok k w := by
        cases e : P.info? F.type with
        | none => rw [e] at u3; cases u3
        | some i =>
          rw [e] at u3
          have : i.size = k := by simpa using u3
          simp [sizeOf, typeInfo, e, this]
      have he : (denL bs l).toArray.extract F.offset (F.offset + k) = (denL bs ((l.drop F.offset).take k)).toArray := by
        rw [denL_take, denL_drop]
        apply Array.ext'
        simp
      unfold execOp
      simp only [ho, Instr.field, Sem.run_bind, run_underlying hu, Result.andThen_ok, hF, hx, asAgg, Sem.run_pure, part, hagg, if_true, hs, he, SV.den]
  · cases h
theorem intS_eval {x : Operand} {y : SV} {i : Int} (A : Fr n bs s a) (h : evS s x = some y) (e : intS y = some i) : a.eval x = .int .i64 i := by rw [(evS_ok A h).1, intS_ok e]
theorem binS_ok {op : BinOp} {T : Nat} {x y : Operand} {t : TypeId} {u v z : SV} (ho : o.op = .binOp op T x y t) (hx : a.eval x = u.den bs) (hy : a.eval y = v.den bs) (h : binS P op T u v = some z) : (execOp a.eval o).run P w = .ok (.value (z.den bs)) w ∧ okB bs.length z = true := by
  unfold binS at h
  split at h
  next i hi =>
    obtain ⟨j, h1, h2⟩ := Option.bind_eq_some_iff.1 h
    obtain ⟨c, h3, rfl⟩ := Option.map_eq_some_iff.1 h2
    rw [knowS_den]
    exact ⟨r_int ho (by rw [hx, intS_ok hi]) (by rw [hy, intS_ok h1]) h3, knowS_ok _ _ _⟩
  next hi =>
    split at h
    next b hb =>
      cases ht : isBo P T with
      | false => rw [ht] at h; cases h
      | true =>
        rw [ht] at h
        simp only [cond_true] at h
        obtain ⟨c, h1, h2⟩ := Option.bind_eq_some_iff.1 h
        obtain ⟨d, h3, rfl⟩ := Option.map_eq_some_iff.1 h2
        rw [knowS_den]
        refine ⟨?_, knowS_ok _ _ _⟩
        unfold cmpB at h3
        split at h3
        · cases h3; exact r_boe (isBo_ok ht) ho (by rw [hx, boolS_ok hb]) (by rw [hy, boolS_ok h1])
        · cases h3; exact r_bon (isBo_ok ht) ho (by rw [hx, boolS_ok hb]) (by rw [hy, boolS_ok h1])
        · cases h3
    · cases h
theorem lenC_ok {c : Call} {y : SV} (ho : o.op = .call c) (A : Fr n bs s a) (h : lenC P s c = some y) : (execOp a.eval o).run P w = .ok (.value (y.den bs)) w ∧ okB bs.length y = true := by
  unfold lenC at h
  cases hl : isLen c.callee with
  | false => rw [hl] at h; cases h
  | true =>
    rw [hl] at h
    simp only [cond_true] at h
    split at h
    next x T ea et =>
      have hc : c = { callee := .builtin .len, args := #[x], argTypes := #[T] } := by
        obtain ⟨ce, ar, at'⟩ := c
        have e1 : ce = .builtin .len := by
          unfold isLen at hl
          split at hl
          · next e => exact e
          · cases hl
        have e2 : ar = #[x] := by apply Array.ext'; simpa using ea
        have e3 : at' = #[T] := by apply Array.ext'; simpa using et
        rw [e1, e2, e3]
      subst hc
      obtain ⟨v, h1, h3⟩ := Option.bind_eq_some_iff.1 h
      have hx := (evS_ok A h1).1
      unfold lenS at h3
      split at h3
      next k m =>
        cases hs : isSl P T with
        | false => rw [hs] at h3; cases h3
        | true =>
          rw [hs] at h3
          cases h3
          obtain ⟨e, he⟩ := isSl_ok hs
          simp only [SV.den] at hx
          exact ⟨by simp only [vi, SV.den]; exact r_len he ho hx, by simp only [vi, okB]⟩
      next z =>
        simp only [SV.den] at hx
        split at h3
        next ao k c =>
          cases hs : isSl P T with
          | false => rw [hs] at h3; cases h3
          | true =>
            rw [hs] at h3
            cases h3
            obtain ⟨e, he⟩ := isSl_ok hs
            exact ⟨by simp only [vi, SV.den]; exact r_len he ho hx, by simp only [vi, okB]⟩
        next b =>
          cases hs : isStr P T with
          | false => rw [hs] at h3; cases h3
          | true =>
            rw [hs] at h3
            cases h3
            exact ⟨by simp only [vi, SV.den]; exact r_lens (isStr_ok hs) ho hx, by simp only [vi, okB]⟩
        · cases h3
      · cases h3
    · cases h
theorem pvS_ok {B : List Bx} {y : SV} (A : Fr n bs s a) (hB : ∀ k us, B[k]? = some (.cells us) → ∃ X, (bkA bs k).a = some X ∧ BoxL w X (denL bs us) ∧ okL bs.length us = true) (h : pvS P s B o.op = some y) : (execOp a.eval o).run P w = .ok (.value (y.den bs)) w ∧ okB bs.length y = true := by
  have key : ∀ op, o.op = op → pvS P s B op = some y → (execOp a.eval o).run P w = .ok (.value (y.den bs)) w ∧ okB bs.length y = true := by
    intro op ho h
    unfold pvS at h
    split at h
    · exact ⟨r_mv ho (evS_ok A h).1, (evS_ok A h).2⟩
    · exact ⟨r_as ho (evS_ok A h).1, (evS_ok A h).2⟩
    next T x f =>
      obtain ⟨z, h1, h2⟩ := Option.bind_eq_some_iff.1 h
      obtain ⟨e, h3, h4⟩ := Option.bind_eq_some_iff.1 h2
      obtain ⟨q1, q2⟩ := evS_ok A h1
      unfold faS at h4
      split at h4
      next k o' =>
        cases h4
        simp only [SV.den] at q1 ⊢
        exact ⟨r_fa h3 ho q1, by simpa only [okB] using q2⟩
      next v =>
        split at h4
        next b i =>
          cases h4
          simp only [SV.den] at q1 ⊢
          exact ⟨r_fa h3 ho q1, by simp only [okB]⟩
        · cases h4
      · cases h4
    next T x =>
      obtain ⟨z, h1, h2⟩ := Option.bind_eq_some_iff.1 h
      obtain ⟨q1, q2⟩ := evS_ok A h1
      split at h2
      next k o' =>
        split at h2
        next us hus =>
          obtain ⟨X, x1, x2, x3⟩ := hB k us hus
          simp only [SV.den, x1, Option.getD_some] at q1
          exact ldS_ok h2 x3 x2 ho q1
        · cases h2
      · cases h2
    next x i =>
      obtain ⟨z, h1, h2⟩ := Option.bind_eq_some_iff.1 h
      obtain ⟨q1, q2⟩ := evS_ok A h1
      unfold exS at h2
      split at h2
      next l =>
        simp only [SV.den] at q1
        simp only [okB] at q2
        exact ⟨r_ex ho q1 (by rw [denL_at, h2]; rfl), okL_at q2 h2⟩
      next v =>
        split at h2
        next vs =>
          obtain ⟨u, h5, rfl⟩ := Option.map_eq_some_iff.1 h2
          simp only [SV.den] at q1 ⊢
          exact ⟨r_ex (vs := vs.toList) ho (by rw [q1]) h5, by simp only [okB]⟩
        · cases h2
      · cases h2
    next x =>
      obtain ⟨z, h1, h2⟩ := Option.bind_eq_some_iff.1 h
      obtain ⟨q1, q2⟩ := evS_ok A h1
      unfold ncS at h2
      split at h2
      next k o' =>
        cases h2
        simp only [SV.den] at q1 ⊢
        exact ⟨r_nc ho q1, q2⟩
      next v =>
        split at h2
        next b =>
          cases h2
          simp only [SV.den] at q1 ⊢
          exact ⟨r_nc ho q1, by simp only [okB]⟩
        next g x' z' =>
          cases h2
          simp only [SV.den] at q1 ⊢
          refine ⟨?_, by simp only [okB]⟩
          unfold execOp
          simp [ho, q1]
        · cases h2
      next g x' z' =>
        cases h2
        simp only [SV.den] at q1 ⊢
        refine ⟨?_, q2⟩
        unfold execOp
        simp [ho, q1]
      · cases h2
    next t x =>
      obtain ⟨z, h1, h2⟩ := Option.bind_eq_some_iff.1 h
      obtain ⟨q1, q2⟩ := evS_ok A h1
      unfold notS at h2
      split at h2
      next b =>
        cases h2
        simp only [SV.den] at q1 ⊢
        exact ⟨r_not ho q1, by simp only [okB]⟩
      · obtain ⟨b, h3, rfl⟩ := Option.map_eq_some_iff.1 h2
        simp only [SV.den]
        exact ⟨r_not ho (q1.trans (boolS_ok h3 bs)), by simp only [okB]⟩
    next c x y' =>
      obtain ⟨z, h1, h2⟩ := Option.bind_eq_some_iff.1 h
      obtain ⟨q1, q2⟩ := evS_ok A h1
      unfold pickS at h2
      split at h2
      next b =>
        simp only [SV.den] at q1
        split at h2
        · exact ⟨r_pk ho q1 (by rw [if_pos rfl]; exact (evS_ok A h2).1), (evS_ok A h2).2⟩
        · exact ⟨r_pk ho q1 (by rw [if_neg (by simp)]; exact (evS_ok A h2).1), (evS_ok A h2).2⟩
      · obtain ⟨b, h3, h4⟩ := Option.bind_eq_some_iff.1 h2
        obtain ⟨u, h5, h6⟩ := Option.bind_eq_some_iff.1 h4
        obtain ⟨v, h7, rfl⟩ := Option.map_eq_some_iff.1 h6
        obtain ⟨xv, h8, h9⟩ := Option.bind_eq_some_iff.1 h5
        obtain ⟨yv, h10, h11⟩ := Option.bind_eq_some_iff.1 h7
        refine ⟨r_pk ho (q1.trans (boolS_ok h3 bs)) ?_, by simp only [okB]⟩
        rw [(evS_ok A h8).1, (evS_ok A h10).1, boolS_ok h9, boolS_ok h11]
        simp only [SV.den]
        cases b <;> rfl
    next op' T x y' t =>
      obtain ⟨i, h1, h2⟩ := Option.bind_eq_some_iff.1 h
      obtain ⟨j, h3, h4⟩ := Option.bind_eq_some_iff.1 h2
      exact binS_ok ho (evS_ok A h1).1 (evS_ok A h3).1 h4
    next c => exact lenC_ok ho A h
    next T ps => exact buildS_ok A ho h
    next T x f =>
      obtain ⟨z, h1, h2⟩ := Option.bind_eq_some_iff.1 h
      obtain ⟨q1, q2⟩ := evS_ok A h1
      unfold fieldS at h2
      split at h2
      next fs hu =>
        obtain ⟨F, hF, h3⟩ := Option.bind_eq_some_iff.1 h2
        split at h3
        next l =>
          simp only [SV.den] at q1
          simp only [okB] at q2
          exact fieldS_run hu hF ho q1 q2 h3
        next v =>
          split at h3
          next vs =>
            simp only [SV.den] at q1
            refine fieldS_run hu hF ho ?_ (okL_v _ vs.toList) h3
            rw [denL_v, q1]
          · cases h3
        · cases h3
      · cases h2
    next g x z =>
      unfold mkfS at h
      obtain ⟨l, h1, h2⟩ := Option.bind_eq_some_iff.1 h
      obtain ⟨r, h3, rfl⟩ := Option.map_eq_some_iff.1 h2
      obtain ⟨e1, e2⟩ := argsS_ok A h1
      obtain ⟨e3, e4⟩ := argsS_ok A h3
      refine ⟨?_, by simp only [okB, e2, e4, Bool.and_self]⟩
      simp only [SV.den]
      refine r_mf ho ?_ ?_
      · apply Array.ext'; rw [Array.toList_map, e1]
      · apply Array.ext'; rw [Array.toList_map, e3]
    · cases h
  exact key o.op rfl h
end
end Ev
end Go.Proofs.Ytkjpbjgepnbibaa
