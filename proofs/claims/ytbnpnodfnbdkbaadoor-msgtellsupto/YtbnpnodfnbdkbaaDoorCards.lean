/-
  DERIVED. GIVEN WITH THE SEED: THE CARDS: each row of YtbnpnodfnbdkbaaDoorRows.lean that lists a variable, with what it lists TIED to the program's text (the seventh form; the later family's looks); each row that meets fmt, with fmt's text TOLD by the authors' own Lean function (tested against real Go, not proved from fmt's source: count such statements apart). THE CARD IS WHAT COUNTS. Prove the row's statement (the work); the ties are given (YtbnpnodfnbdkbaaDoorTie.lean); close each card by the builder's one call (the guide's Derived/Test/ToyasCard.lean, 'card_holds'). Laid BY PROGRAM, IN A SANDBOX (cutbox-door.mjs). By AI agents, Wed Nov 11 2026. No macro, syntax, notation, axiom, sorry.
-/
import Derived.Test.YtbnpnodfnbdkbaaDoorRows
import GoSem.ClaimSeven
namespace Go.Proofs.YtbnpnodfnbdkbaaDoor
namespace Rows

/-- THE TIED CARD OF 'vwlaw1.MsgTells'. -/
def msgTellsCard : Claim7 := { stood := { row := msgTellsRow, standIns := [], harness := (true, "a239352ced5db51bc37d3abcd78d8cf933053aa23ba21d81c217431303053e72"), looks := true }, kinds := [], alts := [], laidByText := true, laidKinds := [.data, .data, .data, .sentinel, .sentinel], laidTests := true, laidLooks := .later }
def MsgTellsCardSaid : Prop := Claim7.holds Tryd.pinned (.plain (OpenSpec.ofChange msgTellsSpec)) msgTellsCard

/-- THE TIED CARD OF 'vwlaw1.MsgTurns'. -/
def msgTurnsCard : Claim7 := { stood := { row := msgTurnsRow, standIns := [], harness := (true, "a239352ced5db51bc37d3abcd78d8cf933053aa23ba21d81c217431303053e72"), looks := true }, kinds := [], alts := [], laidByText := true, laidKinds := [.data, .data, .data, .sentinel, .sentinel], laidTests := true, laidLooks := .later }
def MsgTurnsCardSaid : Prop := Claim7.holds Tryd.pinned (.plain (OpenSpec.ofChange msgTurnsSpec)) msgTurnsCard

/-- THE TIED CARD OF 'vwlaw1.MsgSet'. -/
def msgSetCard : Claim7 := { stood := { row := msgSetRow, standIns := [], harness := (true, "a239352ced5db51bc37d3abcd78d8cf933053aa23ba21d81c217431303053e72"), looks := true }, kinds := [], alts := [], laidByText := true, laidKinds := [.data, .data, .data, .sentinel, .sentinel], laidTests := true, laidLooks := .later }
def MsgSetCardSaid : Prop := Claim7.holds Tryd.pinned (.plain (OpenSpec.ofChange msgSetSpec)) msgSetCard

/-- THE SECOND FORM's CARD OF 'vwlaw1.MsgTells'. -/
def msgTellsUptoCard : Claim7 := { stood := { row := msgTellsUptoRow, standIns := [], harness := (true, "a239352ced5db51bc37d3abcd78d8cf933053aa23ba21d81c217431303053e72"), looks := true }, kinds := [], alts := [], laidByText := true, laidKinds := [.data, .data, .data, .sentinel, .sentinel], laidTests := true, laidLooks := .later }
def MsgTellsUptoCardSaid : Prop := Claim7.holds Tryd.pinned (.plain (OpenSpec.upto msgTellsSpec)) msgTellsUptoCard

/-- THE SECOND FORM's CARD OF 'vwlaw1.MsgTurns'. -/
def msgTurnsUptoCard : Claim7 := { stood := { row := msgTurnsUptoRow, standIns := [], harness := (true, "a239352ced5db51bc37d3abcd78d8cf933053aa23ba21d81c217431303053e72"), looks := true }, kinds := [], alts := [], laidByText := true, laidKinds := [.data, .data, .data, .sentinel, .sentinel], laidTests := true, laidLooks := .later }
def MsgTurnsUptoCardSaid : Prop := Claim7.holds Tryd.pinned (.plain (OpenSpec.upto msgTurnsSpec)) msgTurnsUptoCard

/-- THE SECOND FORM's CARD OF 'vwlaw1.MsgSet'. -/
def msgSetUptoCard : Claim7 := { stood := { row := msgSetUptoRow, standIns := [], harness := (true, "a239352ced5db51bc37d3abcd78d8cf933053aa23ba21d81c217431303053e72"), looks := true }, kinds := [], alts := [], laidByText := true, laidKinds := [.data, .data, .data, .sentinel, .sentinel], laidTests := true, laidLooks := .later }
def MsgSetUptoCardSaid : Prop := Claim7.holds Tryd.pinned (.plain (OpenSpec.upto msgSetSpec)) msgSetUptoCard
end Rows
end Go.Proofs.YtbnpnodfnbdkbaaDoor
