/- Package caps: limits; Wrong of any conf. -/
import Derived.Test.YtbpmcabeghbalaaCapC
namespace Go.Proofs.Ytbpmcabeghbalaa
open Go.RowKit

/-- A conf as data. -/
structure Cf where
  svs : List Sv
  ups : List Up
  bds : List Bd
  fl : Int
  co : Int
  wa : Int
  ti : Int
def cfV (c : Cf) (ao bo po : Option Addr) (ac bc pc : Nat) : Value := .agg #[.slice ao c.svs.length ac, .slice bo c.ups.length bc, .slice po c.bds.length pc, .int .i64 c.fl, .int .i64 c.co, .int .i64 c.wa, .int .i64 c.ti]
structure CfLies (w : World) (c : Cf) (ao bo po : Option Addr) : Prop where
  s : RowsAt svL 4 w ao c.svs
  u : RowsAt upL 4 w bo c.ups
  b : RowsAt bdL 5 w po c.bds
  sok : svOk c.svs
  uok : upOk c.ups
  bok : bdOk c.bds
theorem CfLies.below {w w' : World} {B : Nat} {c : Cf} {ao bo po : Option Addr} (h : CfLies w c ao bo po) (hB : w.heap.size ≤ B) (hb : Below B w w') : CfLies w' c ao bo po :=
  ⟨h.s.below hB hb, h.u.below hB hb, h.b.below hB hb, h.sok, h.uok, h.bok⟩

def limitsB (c : Cf) : Bool := countB c.fl && (countB c.co && (countB c.wa && (countB c.ti && !(c.co == 0))))

def manyB (c : Cf) : Bool := decide ((6 : Int) < (c.svs.length : Int)) || (decide ((4 : Int) < (c.ups.length : Int)) || decide ((8 : Int) < (c.bds.length : Int)))
/-- What is wrong with a conf, and where. -/
def wrongC (c : Cf) : Int × Int :=
  if manyB c then (5, -1) else if limitsB c then
    (if (firstF svE c.svs 0).1 = 0 then (if (firstF upE c.ups 0).1 = 0 then firstF bdE c.bds 0 else firstF upE c.ups 0) else firstF svE c.svs 0)
  else (3, -1)

/-- The box of a conf, behind calls. -/
structure CBox (w : World) (B : Nat) (c : Cf) (ao bo po : Option Addr) (ac bc pc : Nat) : Prop where
  c0 : w.cell? ⟨B, 0, none⟩ = some (.slice ao c.svs.length ac)
  c1 : w.cell? ⟨B, 1, none⟩ = some (.slice bo c.ups.length bc)
  c2 : w.cell? ⟨B, 2, none⟩ = some (.slice po c.bds.length pc)
  c3 : w.cell? ⟨B, 3, none⟩ = some (.int .i64 c.fl)
  c4 : w.cell? ⟨B, 4, none⟩ = some (.int .i64 c.co)
  c5 : w.cell? ⟨B, 5, none⟩ = some (.int .i64 c.wa)
  c6 : w.cell? ⟨B, 6, none⟩ = some (.int .i64 c.ti)
  lt : B < w.heap.size
theorem CBox.keep {w w' : World} {B : Nat} {c : Cf} {ao bo po : Option Addr} {ac bc pc : Nat} (h : CBox w B c ao bo po ac bc pc) {K : Nat} (bl : Below K w w') (hK : B < K) : CBox w' B c ao bo po ac bc pc := by
  have e := fun j => bl.cell (p := ⟨B, j, none⟩) hK
  have s := bl.size
  have l := h.lt
  exact ⟨(e 0).trans h.c0, (e 1).trans h.c1, (e 2).trans h.c2, (e 3).trans h.c3, (e 4).trans h.c4, (e 5).trans h.c5, (e 6).trans h.c6, by omega⟩
theorem cbox_new (w : World) (c : Cf) (ao bo po : Option Addr) (ac bc pc : Nat) :
    CBox (w.alloc (.cells #[.slice ao c.svs.length ac, .slice bo c.ups.length bc, .slice po c.bds.length pc, .int .i64 c.fl, .int .i64 c.co, .int .i64 c.wa, .int .i64 c.ti] 26)) w.heap.size c ao bo po ac bc pc := by
  constructor <;> simp [go_sem]

end Go.Proofs.Ytbpmcabeghbalaa
