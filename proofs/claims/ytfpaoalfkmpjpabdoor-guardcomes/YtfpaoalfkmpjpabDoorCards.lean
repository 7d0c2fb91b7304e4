/-
  DERIVED. GIVEN WITH THE SEED: THE CARDS: each row of YtfpaoalfkmpjpabDoorRows.lean that lists a variable, with what it lists TIED to the program's text (the seventh form; the later family's looks); each row that meets fmt, with fmt's text TOLD by the authors' own Lean function (tested against real Go, not proved from fmt's source: count such statements apart). THE CARD IS WHAT COUNTS. Prove the row's statement (the work); the ties are given (YtfpaoalfkmpjpabDoorTie.lean); close each card by the builder's one call (the guide's Derived/Test/ToyasCard.lean, 'card_holds'). Laid BY PROGRAM, IN A SANDBOX (cutbox-door.mjs). By AI agents, Wed Nov 11 2026. No macro, syntax, notation, axiom, sorry.
-/
import Derived.Test.YtfpaoalfkmpjpabDoorRows
import GoSem.ClaimSeven
namespace Go.Proofs.YtfpaoalfkmpjpabDoor
namespace Rows

/-- THE TIED CARD OF 'vwlaw4.GuardTells'. -/
def guardTellsCard : Claim7 := { stood := { row := guardTellsRow, standIns := [], harness := (true, "6ead7e4ad345e5263c7a8e5024bfd11bfba489d707eb8b133ef241e44fe0e763"), looks := true }, kinds := [], alts := [], laidByText := true, laidKinds := [.handle], laidTests := true, laidLooks := .later }
def GuardTellsCardSaid : Prop := Claim7.holds Tryd.pinned (.plain (OpenSpec.ofChange guardTellsSpec)) guardTellsCard

/-- THE TIED CARD OF 'vwlaw4.GuardComes'. -/
def guardComesCard : Claim7 := { stood := { row := guardComesRow, standIns := [], harness := (true, "6ead7e4ad345e5263c7a8e5024bfd11bfba489d707eb8b133ef241e44fe0e763"), looks := true }, kinds := [], alts := [], laidByText := true, laidKinds := [.handle], laidTests := true, laidLooks := .later }
def GuardComesCardSaid : Prop := Claim7.holds Tryd.pinned (.plain (OpenSpec.ofChange guardComesSpec)) guardComesCard

/-- THE SECOND FORM's CARD OF 'vwlaw4.GuardTells'. -/
def guardTellsUptoCard : Claim7 := { stood := { row := guardTellsUptoRow, standIns := [], harness := (true, "6ead7e4ad345e5263c7a8e5024bfd11bfba489d707eb8b133ef241e44fe0e763"), looks := true }, kinds := [], alts := [], laidByText := true, laidKinds := [.handle], laidTests := true, laidLooks := .later }
def GuardTellsUptoCardSaid : Prop := Claim7.holds Tryd.pinned (.plain (OpenSpec.upto guardTellsSpec)) guardTellsUptoCard

/-- THE SECOND FORM's CARD OF 'vwlaw4.GuardComes'. -/
def guardComesUptoCard : Claim7 := { stood := { row := guardComesUptoRow, standIns := [], harness := (true, "6ead7e4ad345e5263c7a8e5024bfd11bfba489d707eb8b133ef241e44fe0e763"), looks := true }, kinds := [], alts := [], laidByText := true, laidKinds := [.handle], laidTests := true, laidLooks := .later }
def GuardComesUptoCardSaid : Prop := Claim7.holds Tryd.pinned (.plain (OpenSpec.upto guardComesSpec)) guardComesUptoCard
end Rows
end Go.Proofs.YtfpaoalfkmpjpabDoor
