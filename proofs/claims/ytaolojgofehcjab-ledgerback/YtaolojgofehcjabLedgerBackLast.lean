/- LedgerBack holds: for every ledger and all numbers what is taken is there last, and given back all is as it was (the call returns true), and each argument reads afterwards as it read before. No condition beyond the statement's own. -/
import Derived.Test.YtaolojgofehcjabLedgerBackDone
import Derived.Test.YtaolojgofehcjabLedW
namespace Go.Proofs.Ytaolojgofehcjab

theorem ledgerBack_said : Rows.LedgerBackSaid := ledgerBackDone.said impl
end Go.Proofs.Ytaolojgofehcjab
