/- LedgerTells holds: for every ledger and all numbers the call returns true, and each argument reads afterwards as it read before. No condition beyond the statement's own. -/
import Derived.Test.YtaolojgofehcjaaLedgerTellsDone
import Derived.Test.YtaolojgofehcjaaLedW
namespace Go.Proofs.Ytaolojgofehcjaa


theorem ledgerTells_said : Rows.LedgerTellsSaid := ledgerTellsDone.said impl
end Go.Proofs.Ytaolojgofehcjaa
