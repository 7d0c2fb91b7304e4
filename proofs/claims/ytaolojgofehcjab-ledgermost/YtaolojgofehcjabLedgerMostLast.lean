/- LedgerMost holds: for all numbers no more of a kind is held than there is (the call returns true), and each argument reads afterwards as it read before. No condition beyond the statement's own. -/
import Derived.Test.YtaolojgofehcjabLedgerMostDone
import Derived.Test.YtaolojgofehcjabLedW
namespace Go.Proofs.Ytaolojgofehcjab

theorem ledgerMost_said : Rows.LedgerMostSaid := ledgerMostDone.said impl
end Go.Proofs.Ytaolojgofehcjab
