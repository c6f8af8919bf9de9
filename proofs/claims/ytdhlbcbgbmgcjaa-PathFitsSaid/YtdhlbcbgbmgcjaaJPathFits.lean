/- Proved: PathFits returns true for any network and any three stops (distances are the same both ways; over a third stop none is shorter); no condition. -/
import Derived.Test.YtdhlbcbgbmgcjaaRows
import Derived.Test.YtdhlbcbgbmgcjaaJ21904d0a
import Derived.Test.YtdhlbcbgbmgcjaaJ425121f1
namespace Go.Proofs.Ytdhlbcbgbmgcjaa.PathFits

theorem holds : Rows.PathFitsSaid := PtQ.pathFits_row Pt.oks
end Go.Proofs.Ytdhlbcbgbmgcjaa.PathFits
