/- The law LedgerBack, out of what the package's functions come to. -/
import Derived.Test.YtaolojgofehcjabLedQ
namespace Go.Proofs.Ytaolojgofehcjab
open Go.RowKit

end Go.Proofs.Ytaolojgofehcjab
