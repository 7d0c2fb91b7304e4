/-
  No cell of these rows narrows 'for every input' (looked for: loops, veiled, ifaces, maps, wideKeys, modest, calm, conditions, laid).
  DERIVED. THE GIVEN ROWS OF THIS SEAT. 3 by the template 'for every input the law returns true; each argument reads behind the call as it read before'; 0 by the template 'total and deterministic' (their statements: YtmndhecbjpjamaaTotals.lean).
  GIVEN WITH THE SEED: the statements are not yours to turn. If you find one false, say at which input.
  Laid BY PROGRAM, IN A SANDBOX (cutbox-rows.mjs): the forced cells as the released guide's own fill.sh prints them over the translation 9101945d66f307da… (all of the seat's roots in one cut). By AI agents, Wed Nov 11 2026. No macro, syntax, notation, axiom, sorry.
-/
import Derived.Test.YtmndhecbjpjamaaChecked
import GoSem.Claim
import GoSem.ClaimJoined
import GoSem.ClaimMapViews
import Derived.JoinedTies
import Derived.KernelRfl
namespace Go.Proofs.Ytmndhecbjpjamaa
/- THE CELL 'sum', in the pinned program and in every row, IS THE sha256 OF THE DUMP (.gsa) THAT YtmndhecbjpjamaaProg.lean LOADS. Nothing in Lean hashes anything: it is a label: what it is worth is what the hold of that sum in a sandbox is worth. -/
noncomputable def Try.pinned : Pinned := { name := "ytmndhecbjpjamaa", sum := "9101945d66f307da27dc02be836dd3d738dcb44375a5a04c776c797fc14dc313", checked := Try.checked }
namespace Rows
def none {H : Type} : Left H := { results := [], args := [] }

/-- 'vwlaw5.SieveTells': WHATEVER THE INPUT: true; the input reads as it did. -/
def sieveTellsSpec : ChangeSpec := { name := "sieveTells", fn := fun _ => fun
  | [d1, d2, d3] => { results := [.lit (.bool true)], args := [d1, d2, d3] }
  | _ => none }
def sieveTellsRow : OpenClaim := { program := "ytmndhecbjpjamaa", sum := "9101945d66f307da27dc02be836dd3d738dcb44375a5a04c776c797fc14dc313", func := "sieveworks/vwlaw5.SieveTells", spec := "sieveTells", unfollowed := true, recurses := true, apart := false }
def SieveTellsSaid : Prop := sieveTellsRow.holds Try.pinned (OpenSpec.ofChange sieveTellsSpec)

/-- ITS FALSE NEIGHBOUR: 'it returns false'. Refute it at one input. -/
def sieveTellsWrong : ChangeSpec := { name := "sieveTells", fn := fun _ => fun
  | [d1, d2, d3] => { results := [.lit (.bool false)], args := [d1, d2, d3] }
  | _ => none }
def SieveTellsWrongFalsely : Prop := sieveTellsRow.holds Try.pinned (OpenSpec.ofChange sieveTellsWrong)

/-- 'vwlaw5.SieveKeeps': WHATEVER THE INPUT: true; the input reads as it did. -/
def sieveKeepsSpec : ChangeSpec := { name := "sieveKeeps", fn := fun _ => fun
  | [d1, d2, d3] => { results := [.lit (.bool true)], args := [d1, d2, d3] }
  | _ => none }
def sieveKeepsRow : OpenClaim := { program := "ytmndhecbjpjamaa", sum := "9101945d66f307da27dc02be836dd3d738dcb44375a5a04c776c797fc14dc313", func := "sieveworks/vwlaw5.SieveKeeps", spec := "sieveKeeps", unfollowed := true, recurses := true, apart := false }
def SieveKeepsSaid : Prop := sieveKeepsRow.holds Try.pinned (OpenSpec.ofChange sieveKeepsSpec)

/-- ITS FALSE NEIGHBOUR: 'it returns false'. Refute it at one input. -/
def sieveKeepsWrong : ChangeSpec := { name := "sieveKeeps", fn := fun _ => fun
  | [d1, d2, d3] => { results := [.lit (.bool false)], args := [d1, d2, d3] }
  | _ => none }
def SieveKeepsWrongFalsely : Prop := sieveKeepsRow.holds Try.pinned (OpenSpec.ofChange sieveKeepsWrong)

/-- 'vwlaw5.SieveGate': WHATEVER THE INPUT: true; the input reads as it did. -/
def sieveGateSpec : ChangeSpec := { name := "sieveGate", fn := fun _ => fun
  | [d1, d2] => { results := [.lit (.bool true)], args := [d1, d2] }
  | _ => none }
def sieveGateRow : OpenClaim := { program := "ytmndhecbjpjamaa", sum := "9101945d66f307da27dc02be836dd3d738dcb44375a5a04c776c797fc14dc313", func := "sieveworks/vwlaw5.SieveGate", spec := "sieveGate", unfollowed := true, recurses := true, apart := false }
def SieveGateSaid : Prop := sieveGateRow.holds Try.pinned (OpenSpec.ofChange sieveGateSpec)

/-- ITS FALSE NEIGHBOUR: 'it returns false'. Refute it at one input. -/
def sieveGateWrong : ChangeSpec := { name := "sieveGate", fn := fun _ => fun
  | [d1, d2] => { results := [.lit (.bool false)], args := [d1, d2] }
  | _ => none }
def SieveGateWrongFalsely : Prop := sieveGateRow.holds Try.pinned (OpenSpec.ofChange sieveGateWrong)

/- THE SECOND FORM. 'bulk': how many values and letters a reading holds, each counted each time it is reached (what is shared counts as often as it is met; a slice's spare places count too). A statement '..UptoSaid' is the law's where the arguments, and the package variables that the reading takes, are together of bulk at most 1048576: NARROWER than '..Said'. Prove '..Said' where nothing that the law and all that it calls make is longer than what came in: it says more and counts as full. Else prove '..UptoSaid'. A law counts once. -/
mutual
def uptoBulk {H : Type} : DataW H → Nat
  | .lit (.string bytes) => bytes.length + 1
  | .lit _ => 1
  | .nil => 1
  | .ptr d => uptoBulk d + 1
  | .slice elems spare => uptoBulkAll elems + uptoBulkAll spare + 1
  | .agg parts => uptoBulkAll parts + 1
  | .iface _ d => uptoBulk d + 1
  | .map entries => uptoBulkEntries entries + 1
  | .held _ => 1
def uptoBulkAll {H : Type} : List (DataW H) → Nat
  | [] => 0
  | d :: r => uptoBulk d + uptoBulkAll r
def uptoBulkEntries {H : Type} : List (Lit × DataW H) → Nat
  | [] => 0
  | x :: r => uptoBulkEntry x + uptoBulkEntries r
def uptoBulkEntry {H : Type} : Lit × DataW H → Nat
  | (.string bytes, d) => bytes.length + uptoBulk d + 1
  | (_, d) => uptoBulk d + 1
 end
def uptoSmall : (H : Type) → List (DataW H) → Bool := fun _ ds => decide (uptoBulkAll ds ≤ 1048576)
def OpenSpec.upto (s : _root_.Go.ChangeSpec) : _root_.Go.OpenSpec := { _root_.Go.OpenSpec.ofChange s with cond := some uptoSmall }

/-- 'vwlaw5.SieveTells', WHERE WHAT IT READS IS OF BULK AT MOST 1048576: true; the input reads as it did. -/
def sieveTellsUptoRow : OpenClaim := { program := "ytmndhecbjpjamaa", sum := "9101945d66f307da27dc02be836dd3d738dcb44375a5a04c776c797fc14dc313", func := "sieveworks/vwlaw5.SieveTells", spec := "sieveTells", unfollowed := true, recurses := true, apart := false, narrowed := true }
def SieveTellsUptoSaid : Prop := sieveTellsUptoRow.holds Try.pinned (OpenSpec.upto sieveTellsSpec)

/-- 'vwlaw5.SieveKeeps', WHERE WHAT IT READS IS OF BULK AT MOST 1048576: true; the input reads as it did. -/
def sieveKeepsUptoRow : OpenClaim := { program := "ytmndhecbjpjamaa", sum := "9101945d66f307da27dc02be836dd3d738dcb44375a5a04c776c797fc14dc313", func := "sieveworks/vwlaw5.SieveKeeps", spec := "sieveKeeps", unfollowed := true, recurses := true, apart := false, narrowed := true }
def SieveKeepsUptoSaid : Prop := sieveKeepsUptoRow.holds Try.pinned (OpenSpec.upto sieveKeepsSpec)

/-- 'vwlaw5.SieveGate', WHERE WHAT IT READS IS OF BULK AT MOST 1048576: true; the input reads as it did. -/
def sieveGateUptoRow : OpenClaim := { program := "ytmndhecbjpjamaa", sum := "9101945d66f307da27dc02be836dd3d738dcb44375a5a04c776c797fc14dc313", func := "sieveworks/vwlaw5.SieveGate", spec := "sieveGate", unfollowed := true, recurses := true, apart := false, narrowed := true }
def SieveGateUptoSaid : Prop := sieveGateUptoRow.holds Try.pinned (OpenSpec.upto sieveGateSpec)

end Rows
end Go.Proofs.Ytmndhecbjpjamaa
