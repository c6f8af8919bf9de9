/- Proved: RevokeTells returns true for any list of revoked trips, any trip and two numbers (lists are right, pruned, asked of and added to as the document says, or its error), and leaves what it was handed as it was; no condition. -/
import Derived.Test.YtfmmpmpafgbidaaRows
import Derived.Test.YtfmmpmpafgbidaaRvQ
import Derived.Test.YtfmmpmpafgbidaaRvT
namespace Go.Proofs.Ytfmmpmpafgbidaa.RevokeTells

theorem holds : Rows.RevokeTellsSaid := RvQ.tells_row Rv.oks
end Go.Proofs.Ytfmmpmpafgbidaa.RevokeTells
