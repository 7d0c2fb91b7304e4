/- LedgerAll holds: for every ledger and all numbers what is held is given back the last one first, and others hold what they did (the call returns true), and each argument reads afterwards as it read before. No condition beyond the statement's own. -/
import Derived.Test.YtaolojgofehcjabLedgerAllDone
import Derived.Test.YtaolojgofehcjabLedW
namespace Go.Proofs.Ytaolojgofehcjab

theorem ledgerAll_said : Rows.LedgerAllSaid := ledgerAllDone.said impl
end Go.Proofs.Ytaolojgofehcjab
