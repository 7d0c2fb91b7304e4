/- The law LedgerBack, out of what the package's functions come to. -/
import Derived.Test.YtaolojgofehcjaaLedQ
namespace Go.Proofs.Ytaolojgofehcjaa
open Go.RowKit

end Go.Proofs.Ytaolojgofehcjaa
