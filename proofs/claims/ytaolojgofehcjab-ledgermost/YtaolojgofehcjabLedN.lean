/- What the rows hand to the walks: a slice of whole numbers that came in. -/
import Derived.Test.YtaolojgofehcjabLedM
import Derived.Test.YtaolojgofehcjabLedV
namespace Go.Proofs.Ytaolojgofehcjab
open Go.ChangeShapes Go.WideShapes Go.ChangeAt Go.RowKit

theorem own : ownKnob Try.prog.godebug = none := by kernel_rfl
theorem laidOut : laidOutB Try.prog = true := by kernel_rfl
end Go.Proofs.Ytaolojgofehcjab
