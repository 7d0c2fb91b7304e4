/- The law LedgerBack, out of what the package's functions come to. -/
import Derived.Test.YtnhndieoaceofaaLedQ
namespace Go.Proofs.Ytnhndieoaceofaa
open Go.RowKit

end Go.Proofs.Ytnhndieoaceofaa
