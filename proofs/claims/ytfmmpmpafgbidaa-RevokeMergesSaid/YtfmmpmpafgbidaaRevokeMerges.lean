/- Proved: RevokeMerges returns true for any two lists (two lists merge as all of one, added to the other, or the document's error), and leaves what it was handed as it was; no condition. -/
import Derived.Test.YtfmmpmpafgbidaaRows
import Derived.Test.YtfmmpmpafgbidaaRvQ
import Derived.Test.YtfmmpmpafgbidaaRvT
namespace Go.Proofs.Ytfmmpmpafgbidaa.RevokeMerges

theorem holds : Rows.RevokeMergesSaid := RvQ.merges_row Rv.oks
end Go.Proofs.Ytfmmpmpafgbidaa.RevokeMerges
